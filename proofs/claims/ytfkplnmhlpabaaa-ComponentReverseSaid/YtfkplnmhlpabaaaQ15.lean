/- What grooveref10.Same, Great and groovelaw10.fine return. Condition: what they read can be read. What groovelaw10.awake returns: true. No condition. Plain facts on the classes of an irreducible graph. No condition. -/
import Derived.Test.YtfkplnmhlpabaaaQ13
import Derived.Test.YtfkplnmhlpabaaaQ14

namespace Go.Proofs.Ytfkplnmhlpabaaa
open Go.RowKit Go.Shelf
set_option linter.unusedSimpArgs false
set_option linter.unusedVariables false

def greatC (S : Int) (k : Nat) : Bool := decide ((8 < S ∧ S ≤ 64) ∨ (30 < k ∧ k ≤ 1024) ∨ 1027 < k)
set_option maxRecDepth 100000 in
set_option maxHeartbeats 3200000 in
theorem greatC_any (L S : Int) (a : Option Addr) (k c : Nat) (w : World) :
    Calls Try.prog 12 #[grV L S (.slice a k c)] w fun e w' => e = .returned (.bool (greatC S k)) ∧ Below w.heap.size w w' := by
  have b1 := below1 w (.cells #[.int .i64 L, .int .i64 S, .slice a k c] 24)
  obtain ⟨x1, x2, x3⟩ := BoxG.new w L S (.slice a k c) 24
  have HB := Lib.hid b1
  clear b1
  obtain ⟨d1, hd1⟩ : ∃ d, decide (8 < S) = d := ⟨_, rfl⟩
  obtain ⟨d2, hd2⟩ : ∃ d, decide (S ≤ 64) = d := ⟨_, rfl⟩
  obtain ⟨d3, hd3⟩ : ∃ d, decide (30 < k) = d := ⟨_, rfl⟩
  obtain ⟨d4, hd4⟩ : ∃ d, decide (k ≤ 1024) = d := ⟨_, rfl⟩
  obtain ⟨d5, hd5⟩ : ∃ d, decide (1027 < k) = d := ⟨_, rfl⟩
  have i3 : decide ((30 : Int) < (k : Int)) = d3 := by rw [← hd3, decide_eq_decide]; omega
  have i4 : decide ((k : Int) ≤ (1024 : Int)) = d4 := by rw [← hd4, decide_eq_decide]; omega
  have i5 : decide ((1027 : Int) < (k : Int)) = d5 := by rw [← hd5, decide_eq_decide]; omega
  have HE := Lib.hid (show greatC S k = (d1 && d2 || d3 && d4 || d5) by
    unfold greatC
    rw [← hd1, ← hd2, ← hd3, ← hd4, ← hd5, Bool.eq_iff_iff]
    simp [or_assoc])
  rw [HE.out]
  clear HE
  cases d1 <;> cases d2 <;> cases d3 <;> cases d4 <;> cases d5
  all_goals
    go_enter Try.func12, Try.ntmps12
    go_wp2_with fail
    go_ret
    exact ⟨rfl, HB.out⟩
def fineC (L S : Int) (es : List E3) : Bool := !greatC S es.length && chkG L S es == 0
set_option maxRecDepth 100000 in
theorem fineC_any (L S : Int) (es : List E3) (v : Value) (w : World) (hrd : EdgesRd w v es) (hn : es.length ≤ 9223372036854775807) :
    Calls Try.prog 30 #[grV L S v] w fun e w' => e = .returned (.bool (fineC L S es)) ∧ Below w.heap.size w w' := by
  have HRD := Lib.hid hrd
  have b1 := below1 w (.cells #[.int .i64 L, .int .i64 S, v] 24)
  have G1 := Lib.hid (BoxG.new w L S v 24)
  have HB := Lib.hid b1
  have HCK := Lib.hid (fun W h => rcheck_any L S es v W h hn)
  obtain ⟨z, hz⟩ : ∃ z, chkG L S es = z := ⟨_, rfl⟩
  have HF := Lib.hid (show fineC L S es = (!greatC S es.length && z == 0) by unfold fineC; rw [hz])
  rw [hz] at HCK
  rw [HF.out]
  obtain ⟨a, c, rfl⟩ := hrd.form
  obtain ⟨x1, x2, x3⟩ := id G1.out
  have HG := Lib.hid (fun W => greatC_any L S a es.length c W)
  obtain ⟨d, hd⟩ : ∃ d, greatC S es.length = d := ⟨_, rfl⟩
  rw [hd] at HG
  rw [hd]
  clear hrd b1 hz hd HF
  cases d with
  | true =>
    go_enter Try.func30, Try.ntmps30
    go_wp2_with (go_at_call 12; (with_reducible refine (HG.out _).mono ?_); rintro e W2 ⟨rfl, b2⟩; (have B2 := Lib.hid (below_more HB.out (Nat.le_refl _) b2)); clear b2 x1 x2 x3)
    go_ret
    exact ⟨rfl, B2.out⟩
  | false =>
    go_enter Try.func30, Try.ntmps30
    go_wp2_with (first
      | (go_at_call 12; (with_reducible refine (HG.out _).mono ?_); rintro e W2 ⟨rfl, b2⟩; (have G2 := Lib.hid (G1.out.keep b2)); (have B2 := Lib.hid (below_more HB.out (Nat.le_refl _) b2)); clear b2 x1 x2 x3; (obtain ⟨x1, x2, x3⟩ := id G2.out))
      | (go_at_call 49; (with_reducible refine (HCK.out _ (HRD.out.keep B2.out)).mono ?_); rintro e W3 ⟨rfl, b3⟩; (have B3 := Lib.hid (below_more B2.out (Nat.le_refl _) b3)); clear b3 x1 x2 x3))
    go_ret
    exact ⟨by simp, B3.out⟩
/-! ### Lists of components -/
theorem take_eq_succ {α : Type} {a b : List α} {i : Nat} {x y : α} (ha : a[i]? = some x) (hb : b[i]? = some y) (h : a.take i = b.take i) (hxy : x = y) : a.take (i + 1) = b.take (i + 1) := by
  rw [List.take_add_one, List.take_add_one, ha, hb, h, hxy]
set_option maxRecDepth 100000 in
set_option maxHeartbeats 6400000 in
theorem same10_any (va vb : Value) (Xs Ys : List (List Int)) (w : World) (ha : RowsRd w va Xs) (hb : RowsRd w vb Ys) (hla : Xs.length ≤ 100000) (hlb : Ys.length ≤ 100000) (hra : ∀ r ∈ Xs, r.length ≤ 100000) (hrb : ∀ r ∈ Ys, r.length ≤ 100000) :
    Calls Try.prog 22 #[va, vb] w fun e w' => e = .returned (.bool (decide (Xs = Ys))) ∧ Below w.heap.size w w' := by
  have HA := Lib.hid ha
  have HB := Lib.hid hb
  have HRA := Lib.hid hra
  have HRB := Lib.hid hrb
  obtain ⟨a1, c1, rfl⟩ := ha.form
  obtain ⟨a2, c2, rfl⟩ := hb.form
  clear ha hb hra hrb
  by_cases hlen : Xs.length = Ys.length
  · have d0 : ((Xs.length : Int) != (Ys.length : Int)) = false := by rw [hlen]; simp
    have d0' : (Xs.length != Ys.length) = false := by rw [hlen]; simp
    have HL := Lib.hid hlen
    obtain ⟨m, hm⟩ : ∃ m, Xs.length = m := ⟨_, rfl⟩
    rw [hm] at HL
    have HL' := Lib.hid hm
    have T0 := Lib.hid (show Xs.take 0 = Ys.take 0 from rfl)
    rw [← hlen] at d0 d0' ⊢
    rw [hm] at d0 d0' hla ⊢
    clear hlen hm
    go_enter Try.func22, Try.ntmps22
    go_wp2_with fail
    go_loopg [5] m (fun q s5 wx => ∃ i : Nat, i + q = m ∧ s5 = .int .i64 (i : Int) ∧ Hid (Xs.take i = Ys.take i) ∧ Hid (Below w.heap.size w wx))
    case atStart => exact ⟨0, by omega, rfl, T0, Lib.hid (Below.refl _ _)⟩
    case round =>
      clear T0
      obtain ⟨i, him, rfl, HT, HW⟩ := hrel
      rcases gk with _ | q
      · obtain rfl : i = m := by omega
        have HEQ := Lib.hid (show decide (Xs = Ys) = true from decide_eq_true (by
          have := HT.out
          rwa [List.take_of_length_le (by rw [HL'.out]; exact Nat.le_refl _), List.take_of_length_le (by rw [← HL.out]; exact Nat.le_refl _)] at this))
        have j0 : decide ((i : Int) < (i : Int)) = false := decide_eq_false (by omega)
        go_wp2_with fail
        go_ret
        exact ⟨by rw [HEQ.out]; rfl, HW.out⟩
      · obtain ⟨ra, hra⟩ : ∃ r, Xs[i]? = some r := ⟨_, List.getElem?_eq_getElem (by rw [HL'.out]; omega)⟩
        obtain ⟨rb', hrb⟩ : ∃ r, Ys[i]? = some r := ⟨_, List.getElem?_eq_getElem (by rw [← HL.out]; omega)⟩
        obtain ⟨b1, o1, cc1, u1, hv1, k1, r1⟩ := HA.out.at hra
        obtain ⟨b2, o2, cc2, u2, hv2, k2, r2⟩ := HB.out.at hrb
        have hl1 := HRA.out ra (List.mem_of_getElem? hra)
        have hl2 := HRB.out rb' (List.mem_of_getElem? hrb)
        injection hv1 with e1 e2 e3
        injection hv2 with e4 e5 e6
        subst e1 e4
        obtain ⟨g1, q1, rfl⟩ := r1.form
        obtain ⟨g2, q2, rfl⟩ := r2.form
        have HR1 := Lib.hid r1
        have HR2 := Lib.hid r2
        have HRAE := Lib.hid hra
        have HRBE := Lib.hid hrb
        have j1 : (i : Int) < (m : Int) := by omega
        obtain ⟨n1, hn1⟩ : ∃ n1, ra.length = n1 := ⟨_, rfl⟩
        obtain ⟨n2, hn2⟩ : ∃ n2, rb'.length = n2 := ⟨_, rfl⟩
        have K1 := Lib.hid (fun X (h : Below w.heap.size w X) => cell_keep k1 h)
        have K2 := Lib.hid (fun X (h : Below w.heap.size w X) => cell_keep k2 h)
        have k1 := K1.out wr HW.out
        have k2 := K2.out wr HW.out
        have HN1 := Lib.hid hn1
        have HN2 := Lib.hid hn2
        rw [hn1] at k1 K1 HR1 hl1
        rw [hn2] at k2 K2 HR2 hl2
        clear e2 e3 e5 e6 hra hrb r1 r2 hn1 hn2
        by_cases hnn : n1 = n2
        · subst hnn
          have d1 : ((n1 : Int) != (n1 : Int)) = false := by simp
          go_wp2_with fail
          go_quiet (fail)
          go_wp2_with fail
          rename_i nq
          have hB5 := Lib.hid (below_drewM HW.out nq)
          have T1 := Lib.hid (show ra.take 0 = rb'.take 0 from rfl)
          generalize World.drewN wr nq = W5 at *
          clear k1 k2 HW
          go_loopg [6] n1 (fun q2 s6 wx => ∃ k : Nat, k + q2 = n1 ∧ s6 = .int .i64 (k : Int) ∧ Hid (ra.take k = rb'.take k) ∧ Hid (Below w.heap.size w wx))
          case atStart => exact ⟨0, by omega, rfl, T1, hB5⟩
          case round =>
            clear T1 hB5
            obtain ⟨k, hkm, rfl, HT2, HW2⟩ := hrel
            have k1 := K1.out _ HW2.out
            have k2 := K2.out _ HW2.out
            rcases gk with _ | q2
            · obtain rfl : k = n1 := by omega
              have j2 : decide ((k : Int) < (k : Int)) = false := decide_eq_false (by omega)
              have HT3 := Lib.hid (take_eq_succ HRAE.out HRBE.out HT.out (by
                have := HT2.out
                rwa [List.take_of_length_le (by rw [HN1.out]; exact Nat.le_refl _), List.take_of_length_le (by rw [HN2.out]; exact Nat.le_refl _)] at this))
              go_wp2_with fail
              go_roundg q
              case measure => omega
              case rel => exact ⟨i + 1, by omega, by go_num, HT3, HW2⟩
            · obtain ⟨x, hx⟩ : ∃ x, ra[k]? = some x := ⟨_, List.getElem?_eq_getElem (by rw [HN1.out]; omega)⟩
              obtain ⟨y, hy⟩ : ∃ y, rb'[k]? = some y := ⟨_, List.getElem?_eq_getElem (by rw [HN2.out]; omega)⟩
              obtain ⟨b3, o3, cc3, hv3, k3⟩ := (HR1.out.keep HW2.out).at hx
              obtain ⟨b4, o4, cc4, hv4, k4⟩ := (HR2.out.keep HW2.out).at hy
              injection hv3 with e1 e2 e3
              injection hv4 with e4 e5 e6
              subst e1 e4
              have j2 : (k : Int) < (n1 : Int) := by omega
              clear e2 e3 e5 e6
              by_cases hxy : x = y
              · have d2 : (x != y) = false := by simpa using hxy
                have HT3 := Lib.hid (take_eq_succ hx hy HT2.out hxy)
                clear hx hy hxy
                go_wp2_with fail
                go_quiet (fail)
                go_wp2_with fail
                go_roundg q2
                case measure => omega
                case rel => exact ⟨k + 1, by omega, by go_num, HT3, Lib.hid (below_drewM HW2.out _)⟩
              · have d2 : (x != y) = true := by simpa using hxy
                have HNE := Lib.hid (show decide (Xs = Ys) = false from decide_eq_false (fun h => by
                  have h1 := HRAE.out
                  rw [h, HRBE.out] at h1
                  injection h1 with h1
                  rw [← h1, hy] at hx
                  injection hx with hx
                  exact hxy hx.symm))
                clear hx hy hxy
                go_wp2_with fail
                go_quiet (fail)
                go_wp2_with fail
                go_ret
                exact ⟨by rw [HNE.out]; rfl, below_drewM HW2.out _⟩
        · have d1 : ((n1 : Int) != (n2 : Int)) = true := by simpa using fun h => hnn (by omega)
          have HNE := Lib.hid (show decide (Xs = Ys) = false from decide_eq_false (fun h => by
            have h1 := HRAE.out
            rw [h, HRBE.out] at h1
            injection h1 with h1
            exact hnn (by rw [← HN1.out, ← HN2.out, h1])))
          clear hnn
          go_wp2_with fail
          go_quiet (fail)
          go_wp2_with fail
          go_ret
          exact ⟨by rw [HNE.out]; rfl, below_drewM HW.out _⟩
  · have d0 : ((Xs.length : Int) != (Ys.length : Int)) = true := by simpa using fun h => hlen (by omega)
    have d0' : (Xs.length != Ys.length) = true := by simpa using hlen
    have HNE := Lib.hid (show decide (Xs = Ys) = false from decide_eq_false (fun h => hlen (by rw [h])))
    rw [HNE.out]
    clear hlen
    go_enter Try.func22, Try.ntmps22
    go_wp2_with fail
    go_ret
    exact ⟨rfl, Below.refl _ _⟩
end Go.Proofs.Ytfkplnmhlpabaaa

namespace Go.Proofs.Ytfkplnmhlpabaaa
open Go.RowKit Go.Shelf
set_option linter.unusedSimpArgs false
set_option linter.unusedVariables false

abbrev gA : List E3 := [(0, 0, 1), (1, 0, 0), (1, 0, 2)]
abbrev gH : List E3 := [(0, 0, 1), (1, 0, 2), (2, 0, 0)]
theorem chkA : chkG 1 3 gA = 0 := by decide
theorem chkH : chkG 1 3 gH = 0 := by decide
theorem compsA : comps gA 3 = [[0, 1], [2]] := by decide +kernel
theorem ofA : partsR 1 3 gA (fun _ => true) = [[0, 1], [2]] := by unfold partsR; rw [if_pos chkA]; decide +kernel
theorem cycA : partsR 1 3 gA (fun c => hasEd gA c true) = [[0, 1]] := by unfold partsR; rw [if_pos chkA]; decide +kernel
theorem snkA : partsR 1 3 gA (fun c => !hasEd gA c false) = [[2]] := by unfold partsR; rw [if_pos chkA]; decide +kernel
theorem errA : errC 1 3 gA = 0 := by unfold errC; rw [if_pos chkA]
theorem perH : perR 1 3 gH = 3 := by decide +kernel
theorem perEH : perE 1 3 gH = 0 := by decide +kernel
theorem clsH : clsR 1 3 gH = [0, 1, 2] := by decide +kernel
theorem rows_head {W : World} {b off c : Nat} {x : List Int} {xs : List (List Int)} {k : Nat} (h : RowsRd W (.slice (some ⟨b, off, none⟩) k c) (x :: xs)) (c' : Nat) : RowsRd W (.slice (some ⟨b, off, none⟩) 1 c') [x] := by
  refine ⟨_, _, rfl, fun i r hr => ?_⟩
  obtain ⟨a, cc, hv, h1⟩ := h
  injection hv with e1 e2 e3
  subst e1
  match i, hr with
  | 0, hr =>
    simp at hr
    subst hr
    exact h1 0 x rfl
theorem rows_tail {W : World} {b off c : Nat} {x : List Int} {xs : List (List Int)} {k : Nat} (h : RowsRd W (.slice (some ⟨b, off, none⟩) k c) (x :: xs)) (c' : Nat) : RowsRd W (.slice (some ⟨b, off + 1, none⟩) xs.length c') xs := by
  refine ⟨_, _, rfl, fun i r hr => ?_⟩
  obtain ⟨a, cc, hv, h1⟩ := h
  injection hv with e1 e2 e3
  subst e1
  obtain ⟨b', o', u, h2, h3, h4⟩ := h1 (i + 1) r (by simpa using hr)
  injection h2 with h2
  injection h2 with h5 h6
  subst h5 h6
  exact ⟨b, off + 1, u, rfl, by rw [show off + 1 + i = off + (i + 1) by omega]; exact h3, h4⟩
theorem intsNew (W : World) (l : List Int) (h0 : 0 < l.length) (hl : l.length ≤ 1000) : IntsRd (W.alloc (.cells (intz l).toArray 3)) (.slice (some ⟨W.heap.size, 0, none⟩) l.length l.length) l := (intsLit W l h0 hl).rd
theorem same10_yes (va vb : Value) (xs : List (List Int)) (w : World) (ha : RowsRd w va xs) (hb : RowsRd w vb xs) (hla : xs.length ≤ 100000) (hra : ∀ r ∈ xs, r.length ≤ 100000) :
    Calls Try.prog 22 #[va, vb] w fun e w' => e = .returned (.bool true) ∧ Below w.heap.size w w' := by
  have h := same10_any va vb xs xs w ha hb hla hla hra hra
  rwa [show decide (xs = xs) = true from decide_eq_true rfl] at h
/-- What awake keeps: its two graphs. -/
structure AW (w : World) (p q : Nat) (va vh : Value) (X : World) : Prop where
  ea : EdgesRd X va gA
  ba : BoxG X p 1 3 va
  eh : EdgesRd X vh gH
  bh : BoxG X q 1 3 vh
  b : Below w.heap.size w X
theorem AW.keep {w X Y : World} {p q : Nat} {va vh : Value} (h : AW w p q va vh X) (hb : Below X.heap.size X Y) : AW w p q va vh Y :=
  ⟨h.ea.keep hb, h.ba.keep hb, h.eh.keep hb, h.bh.keep hb, below_more h.b (Nat.le_refl _) hb⟩
theorem aw_start (w : World) : AW w (w.heap.size + 1) (w.heap.size + 1 + 1 + 1) (.slice (some ⟨w.heap.size, 0, none⟩) 3 3) (.slice (some ⟨w.heap.size + 1 + 1, 0, none⟩) 3 3)
    ((((w.alloc (.cells #[.int .i64 0, .int .i64 0, .int .i64 1, .int .i64 1, .int .i64 0, .int .i64 0, .int .i64 1, .int .i64 0, .int .i64 2] 46)).alloc (.cells #[.int .i64 1, .int .i64 3, .slice (some ⟨w.heap.size, 0, none⟩) 3 3] 24)).alloc (.cells #[.int .i64 0, .int .i64 0, .int .i64 1, .int .i64 1, .int .i64 0, .int .i64 2, .int .i64 2, .int .i64 0, .int .i64 0] 46)).alloc (.cells #[.int .i64 1, .int .i64 3, .slice (some ⟨w.heap.size + 1 + 1, 0, none⟩) 3 3] 24)) := by
  have e1 : EdgesRd (w.alloc (.cells #[.int .i64 0, .int .i64 0, .int .i64 1, .int .i64 1, .int .i64 0, .int .i64 0, .int .i64 1, .int .i64 0, .int .i64 2] 46)) (.slice (some ⟨w.heap.size, 0, none⟩) 3 3) gA := (edgesLit w gA (by decide) (by decide)).rd
  have b1 := below1 w (.cells #[.int .i64 0, .int .i64 0, .int .i64 1, .int .i64 1, .int .i64 0, .int .i64 0, .int .i64 1, .int .i64 0, .int .i64 2] 46)
  have s1 := World.size_alloc w (.cells #[.int .i64 0, .int .i64 0, .int .i64 1, .int .i64 1, .int .i64 0, .int .i64 0, .int .i64 1, .int .i64 0, .int .i64 2] 46)
  generalize w.alloc (.cells #[.int .i64 0, .int .i64 0, .int .i64 1, .int .i64 1, .int .i64 0, .int .i64 0, .int .i64 1, .int .i64 0, .int .i64 2] 46) = W1 at *
  have g2 := BoxG.new W1 1 3 (.slice (some ⟨w.heap.size, 0, none⟩) 3 3) 24
  have k2 := below1 W1 (.cells #[.int .i64 1, .int .i64 3, .slice (some ⟨w.heap.size, 0, none⟩) 3 3] 24)
  have s2 := World.size_alloc W1 (.cells #[.int .i64 1, .int .i64 3, .slice (some ⟨w.heap.size, 0, none⟩) 3 3] 24)
  have e2 := e1.keep k2
  have b2 := below_more b1 (Nat.le_refl _) k2
  rw [s1] at g2
  clear e1 b1 k2
  generalize W1.alloc (.cells #[.int .i64 1, .int .i64 3, .slice (some ⟨w.heap.size, 0, none⟩) 3 3] 24) = W2 at *
  have e3 : EdgesRd (W2.alloc (.cells #[.int .i64 0, .int .i64 0, .int .i64 1, .int .i64 1, .int .i64 0, .int .i64 2, .int .i64 2, .int .i64 0, .int .i64 0] 46)) (.slice (some ⟨W2.heap.size, 0, none⟩) 3 3) gH := (edgesLit W2 gH (by decide) (by decide)).rd
  have k3 := below1 W2 (.cells #[.int .i64 0, .int .i64 0, .int .i64 1, .int .i64 1, .int .i64 0, .int .i64 2, .int .i64 2, .int .i64 0, .int .i64 0] 46)
  have s3 := World.size_alloc W2 (.cells #[.int .i64 0, .int .i64 0, .int .i64 1, .int .i64 1, .int .i64 0, .int .i64 2, .int .i64 2, .int .i64 0, .int .i64 0] 46)
  have e33 := e2.keep k3
  have g3 := g2.keep k3
  have b3 := below_more b2 (Nat.le_refl _) k3
  rw [s2, s1] at e3 s3
  clear e2 g2 b2 k3
  generalize W2.alloc (.cells #[.int .i64 0, .int .i64 0, .int .i64 1, .int .i64 1, .int .i64 0, .int .i64 2, .int .i64 2, .int .i64 0, .int .i64 0] 46) = W3 at *
  have k4 := below1 W3 (.cells #[.int .i64 1, .int .i64 3, .slice (some ⟨w.heap.size + 1 + 1, 0, none⟩) 3 3] 24)
  have g4 := BoxG.new W3 1 3 (.slice (some ⟨w.heap.size + 1 + 1, 0, none⟩) 3 3) 24
  rw [s3] at g4
  exact ⟨e33.keep k4, g3.keep k4, e3.keep k4, g4, below_more b3 (Nat.le_refl _) k4⟩
theorem lit2 (X : World) : RowsRd (((X.alloc (.cells #[.int .i64 0, .int .i64 1] 3)).alloc (.cells #[.int .i64 2] 3)).alloc (.cells #[.slice (some ⟨X.heap.size, 0, none⟩) 2 2, .slice (some ⟨X.heap.size + 1, 0, none⟩) 1 1] 34)) (.slice (some ⟨X.heap.size + 1 + 1, 0, none⟩) 2 2) [[0, 1], [2]] := by
  have e1 := intsNew X [0, 1] (by decide) (by decide)
  have s1 := World.size_alloc X (.cells #[.int .i64 0, .int .i64 1] 3)
  have e1' : IntsRd (X.alloc (.cells #[.int .i64 0, .int .i64 1] 3)) (.slice (some ⟨X.heap.size, 0, none⟩) 2 2) [0, 1] := e1
  clear e1
  generalize X.alloc (.cells #[.int .i64 0, .int .i64 1] 3) = X1 at *
  have e2 : IntsRd (X1.alloc (.cells #[.int .i64 2] 3)) (.slice (some ⟨X1.heap.size, 0, none⟩) 1 1) [2] := intsNew X1 [2] (by decide) (by decide)
  have k2 := below1 X1 (.cells #[.int .i64 2] 3)
  have s2 := World.size_alloc X1 (.cells #[.int .i64 2] 3)
  have e12 := e1'.keep k2
  rw [s1] at e2 s2
  clear e1' k2
  generalize X1.alloc (.cells #[.int .i64 2] 3) = X2 at *
  have k3 := below1 X2 (.cells #[.slice (some ⟨X.heap.size, 0, none⟩) 2 2, .slice (some ⟨X.heap.size + 1, 0, none⟩) 1 1] 34)
  rw [← s2]
  refine ⟨_, _, rfl, fun i r hr => ?_⟩
  match i, hr with
  | 0, hr =>
    simp at hr
    subst hr
    exact ⟨_, _, _, rfl, by simp [go_sem], e12.keep k3⟩
  | 1, hr =>
    simp at hr
    subst hr
    exact ⟨_, _, _, rfl, by simp [go_sem], e2.keep k3⟩
set_option maxRecDepth 100000 in
set_option maxHeartbeats 12800000 in
theorem awake_any (w : World) : Calls Try.prog 13 #[] w fun e w' => e = .returned (.bool true) ∧ Below w.heap.size w w' := by
  have H0 := Lib.hid (aw_start w)
  go_enter Try.func13, Try.ntmps13
  go_upto_region 3 with fail
  generalize ((((w.alloc (.cells #[.int .i64 0, .int .i64 0, .int .i64 1, .int .i64 1, .int .i64 0, .int .i64 0, .int .i64 1, .int .i64 0, .int .i64 2] 46)).alloc (.cells #[.int .i64 1, .int .i64 3, .slice (some ⟨w.heap.size, 0, none⟩) 3 3] 24)).alloc (.cells #[.int .i64 0, .int .i64 0, .int .i64 1, .int .i64 1, .int .i64 0, .int .i64 2, .int .i64 2, .int .i64 0, .int .i64 0] 46)).alloc (.cells #[.int .i64 1, .int .i64 3, .slice (some ⟨w.heap.size + 1 + 1, 0, none⟩) 3 3] 24)) = X0 at *
  have HOF := Lib.hid (fun X v h => ofA ▸ errA ▸ of_any 1 3 gA v X h (by decide))
  have HCY := Lib.hid (fun X v h => cycA ▸ errA ▸ cyclic_any 1 3 gA v X h (by decide))
  have HSN := Lib.hid (fun X v h => snkA ▸ errA ▸ sinks_any 1 3 gA v X h (by decide))
  have HPE := Lib.hid (fun X v h => perH ▸ perEH ▸ period_any 1 3 gH v X h (by decide))
  have HCL := Lib.hid (fun X v h => clsH ▸ perEH ▸ classes_any 1 3 gH v X h (by decide))
  obtain ⟨x1, x2, x3⟩ := id H0.out.ba
  go_upto_region 8 with (first
    | (go_at_call 14; (with_reducible refine (HOF.out _ _ H0.out.ea).mono ?_); rintro e X1 ⟨v1, rfl, r1, b1, q1⟩; (have H1 := Lib.hid (H0.out.keep b1)); (have RA := Lib.hid r1); (have QA := Lib.hid q1); clear b1 r1 q1 x1 x2 x3; (obtain ⟨x1, x2, x3⟩ := id H1.out.ba))
    | (go_at_call 16; (with_reducible refine (HCY.out _ _ H1.out.ea).mono ?_); rintro e X2 ⟨v2, rfl, r2, b2, q2⟩; (have H2 := Lib.hid (H1.out.keep b2)); (have RA2 := Lib.hid (RA.out.keep b2)); (have RB := Lib.hid r2); clear b2 r2 q2 x1 x2 x3; (obtain ⟨x1, x2, x3⟩ := id H2.out.ba))
    | (go_at_call 18; (with_reducible refine (HSN.out _ _ H2.out.ea).mono ?_); rintro e X3 ⟨v3, rfl, r3, b3, q3⟩; (have H3 := Lib.hid (H2.out.keep b3)); (have RA3 := Lib.hid (RA2.out.keep b3)); (have RB3 := Lib.hid (RB.out.keep b3)); (have RC := Lib.hid r3); clear b3 r3 q3 x1 x2 x3; (obtain ⟨x1, x2, x3⟩ := id H3.out.bh))
    | (go_at_call 25; (with_reducible refine (HPE.out _ _ H3.out.eh).mono ?_); rintro e X4 ⟨rfl, b4⟩; (have H4 := Lib.hid (H3.out.keep b4)); (have RA4 := Lib.hid (RA3.out.keep b4)); (have RB4 := Lib.hid (RB3.out.keep b4)); (have RC4 := Lib.hid (RC.out.keep b4)); clear b4 x1 x2 x3; (obtain ⟨x1, x2, x3⟩ := id H4.out.bh))
    | (go_at_call 27; (with_reducible refine (HCL.out _ _ H4.out.eh).mono ?_); rintro e X5 ⟨v5, rfl, i5, b5⟩; (have H5 := Lib.hid (H4.out.keep b5)); (have RA5 := Lib.hid (RA4.out.keep b5)); (have RB5 := Lib.hid (RB4.out.keep b5)); (have RC5 := Lib.hid (RC4.out.keep b5)); (have RD5 := Lib.hid i5); clear b5 i5 x1 x2 x3))
  obtain ⟨bb, oo, cc, uu, rfl, -, -⟩ := RA5.out.at (i := 0) (r := [0, 1]) rfl
  obtain ⟨qa, qn, qc, qv, hcap⟩ := QA.out
  injection qv with q1 q2 q3
  subst q2 q3
  have hc2 : 2 ≤ cc := by simpa using hcap
  have hc1 : (1 : Int) ≤ (cc : Int) := by omega
  have hc3 : 1 ≤ cc := by omega
  have hc4 : ¬ cc = 1 := by omega
  have kl := below_more (below_more (below1 X5 (.cells #[.int .i64 0, .int .i64 1] 3)) (Nat.le_refl _) (below1 _ (.cells #[.int .i64 2] 3))) (Nat.le_refl _) (below1 _ (.cells #[.slice (some ⟨X5.heap.size, 0, none⟩) 2 2, .slice (some ⟨X5.heap.size + 1, 0, none⟩) 1 1] 34))
  have RAx := Lib.hid (show RowsRd X5 (.slice (some ⟨bb, oo, none⟩) 2 cc) [[0, 1], [2]] from RA5.out)
  have HS1 := Lib.hid (same10_yes _ _ _ _ (RAx.out.keep kl) (lit2 X5) (by decide) (by decide))
  have HKL := Lib.hid kl
  clear kl hcap q1
  go_wp2_with (first
    | (go_at_call 22; (with_reducible refine HS1.out.mono ?_); rintro e Y1 ⟨rfl, b6⟩; (have k6 := below_more HKL.out (Nat.le_refl _) b6); (have H6 := Lib.hid (H5.out.keep k6)); (have RA6 := Lib.hid (RAx.out.keep k6)); (have RB6 := Lib.hid (RB5.out.keep k6)); (have RC6 := Lib.hid (RC5.out.keep k6)); (have RD6 := Lib.hid (RD5.out.keep k6)); clear b6 k6 HS1 HKL; (have HS2 := Lib.hid (same10_yes _ _ _ _ RB6.out (rows_head RA6.out cc) (by decide) (by decide))))
    | (go_at_call 22; (with_reducible refine HS2.out.mono ?_); rintro e Y2 ⟨rfl, b7⟩; (have H7 := Lib.hid (H6.out.keep b7)); (have RA7 := Lib.hid (RA6.out.keep b7)); (have RC7 := Lib.hid (RC6.out.keep b7)); (have RD7 := Lib.hid (RD6.out.keep b7)); clear b7 HS2; (have HS3 := Lib.hid (same10_yes _ _ _ _ RC7.out (show RowsRd Y2 (.slice (some ⟨bb, oo + 1, none⟩) 1 (cc - 1)) [[2]] from rows_tail RA7.out (cc - 1)) (by decide) (by decide))))
    | (go_at_call 22; (with_reducible refine HS3.out.mono ?_); rintro e Y3 ⟨rfl, b8⟩; (have H8 := Lib.hid (H7.out.keep b8)); (have RD8 := Lib.hid (RD7.out.keep b8)); clear b8 HS3)
    | (go_at_call 29; refine (intsEq_any (RD8.out.keep (below1 Y3 (.cells #[.int .i64 0, .int .i64 1, .int .i64 2] 3))) (intsNew Y3 [0, 1, 2] (by decide) (by decide)) (by decide) (by decide)).mono ?_; rintro e Y4 ⟨rfl, b9⟩; (rw [show decide ([(0 : Int), 1, 2] = [0, 1, 2]) = true by decide]); (have B9 := Lib.hid ((H8.out.keep (below1 Y3 (.cells #[.int .i64 0, .int .i64 1, .int .i64 2] 3))).keep b9).b); clear b9))
  go_ret
  exact ⟨rfl, B9.out⟩
end Go.Proofs.Ytfkplnmhlpabaaa

namespace Go.Proofs.Ytfkplnmhlpabaaa
set_option linter.unusedVariables false
section
variable {L : Int} {n : Nat} {es : List E3}
theorem Rc.first {s x : Int} (h : Rc es s x) (hne : s ≠ x) : ∃ e ∈ es, e.1 = s := by
  obtain ⟨k, h⟩ := h
  induction h with
  | nil => exact absurd rfl hne
  | @step k e h he ih =>
    by_cases h1 : s = e.1
    · exact ⟨e, he, h1.symm⟩
    · exact ih h1
theorem out_edge (h : ∀ e ∈ es, okE L (n : Int) e = true) (hc : ∀ s t, s < n → t < n → Rc es (s : Int) (t : Int)) (h0 : es ≠ []) {t : Nat} (ht : t < n) : ∃ e ∈ es, e.1 = (t : Int) := by
  obtain ⟨e, he⟩ : ∃ e, e ∈ es := by
    cases es with
    | nil => exact absurd rfl h0
    | cons e es => exact ⟨e, List.mem_cons_self⟩
  obtain ⟨a1, a2, a3, a4⟩ := okE_st (h e he)
  by_cases h1 : (t : Int) = e.1
  · exact ⟨e, he, h1.symm⟩
  · have := hc t e.1.toNat ht a1
    rw [← a3] at this
    exact this.first h1
theorem long_path (h : ∀ e ∈ es, okE L (n : Int) e = true) (hc : ∀ s t, s < n → t < n → Rc es (s : Int) (t : Int)) (h0 : es ≠ []) {s : Nat} (hs : s < n) : ∀ k : Nat, ∃ x : Nat, x < n ∧ Pth es (s : Int) k (x : Int)
  | 0 => ⟨s, hs, .nil⟩
  | k + 1 => by
    obtain ⟨x, hx, hp⟩ := long_path h hc h0 hs k
    obtain ⟨e, he, h1⟩ := out_edge h hc h0 hx
    obtain ⟨a1, a2, a3, a4⟩ := okE_st (h e he)
    refine ⟨e.2.2.toNat, a2, ?_⟩
    rw [← a4]
    exact .step (by rw [h1]; exact hp) he
theorem cls_zero (h : ∀ e ∈ es, okE L (n : Int) e = true) (hn : 0 < n) : clsF es n 0 = 0 := by unfold clsF; rw [lenF_zero h hn]; simp
theorem cls_path (h : ∀ e ∈ es, okE L (n : Int) e = true) (hn : 0 < n) {k : Nat} {x : Nat} (hp : Pth es 0 k (x : Int)) : clsF es n x = (k : Int) % ((perN es n : Nat) : Int) := by
  have h1 := perF_path (d := lenF es n 0) hp
  rw [Int.toNat_natCast, show (0 : Int).toNat = 0 from rfl, lenF_zero h hn] at h1
  unfold clsF
  symm
  refine (Int.emod_eq_emod_iff_emod_sub_eq_zero).2 ?_
  refine Int.emod_eq_zero_of_dvd ?_
  rwa [Int.zero_add] at h1
theorem cls_edge {e : E3} (he : e ∈ es) : clsF es n e.2.2.toNat = (clsF es n e.1.toNat + 1) % ((perN es n : Nat) : Int) := by
  obtain ⟨z, hz⟩ := perF_dvd (d := lenF es n 0) he
  have hz' : lenF es n 0 e.1.toNat + 1 - lenF es n 0 e.2.2.toNat = ((perN es n : Nat) : Int) * z := hz
  unfold clsF
  rw [Int.emod_add_emod]
  symm
  refine (Int.emod_eq_emod_iff_emod_sub_eq_zero).2 ?_
  exact Int.emod_eq_zero_of_dvd ⟨z, hz'⟩
theorem cls_all (h : ∀ e ∈ es, okE L (n : Int) e = true) (hc : ∀ s t, s < n → t < n → Rc es (s : Int) (t : Int)) (h0 : es ≠ []) (hn : 0 < n) {c : Nat} (hcP : c < perN es n) : ∃ t, t < n ∧ clsF es n t = (c : Int) := by
  obtain ⟨x, hx, hp⟩ := long_path h hc h0 hn c
  refine ⟨x, hx, ?_⟩
  rw [cls_path h hn hp]
  exact Int.emod_eq_of_lt (by omega) (by omega)
end
end Go.Proofs.Ytfkplnmhlpabaaa
