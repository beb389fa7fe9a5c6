/- What grooveref10.Same, Great and groovelaw10.fine return. Condition: what they read can be read. -/
import Derived.Test.YtfkplnmhlpabaaaKl
import Derived.Test.YtfkplnmhlpabaaaVu
namespace Go.Proofs.Ytfkplnmhlpabaaa
open Go.RowKit Go.Shelf
set_option linter.unusedSimpArgs false
set_option linter.unusedVariables false

def greatC (S : Int) (k : Nat) : Bool := decide ((8 < S ∧ S ≤ 64) ∨ (30 < k ∧ k ≤ 1024) ∨ 1027 < k)
set_option maxRecDepth 100000 in
set_option maxHeartbeats 3200000 in
theorem greatC_any (L S : Int) (a : Option Addr) (k c : Nat) (w : World) :
    Calls Try.prog 12 #[grV L S (.slice a k c)] w fun e w' => e = .returned (.bool (greatC S k)) ∧ Below w.heap.size w w' := by
  have b1 := below1 w (.cells #[.int .i64 L, .int .i64 S, .slice a k c] 24)
  obtain ⟨x1, x2, x3⟩ := BoxG.new w L S (.slice a k c) 24
  have HB := Lib.hid b1
  clear b1
  obtain ⟨d1, hd1⟩ : ∃ d, decide (8 < S) = d := ⟨_, rfl⟩
  obtain ⟨d2, hd2⟩ : ∃ d, decide (S ≤ 64) = d := ⟨_, rfl⟩
  obtain ⟨d3, hd3⟩ : ∃ d, decide (30 < k) = d := ⟨_, rfl⟩
  obtain ⟨d4, hd4⟩ : ∃ d, decide (k ≤ 1024) = d := ⟨_, rfl⟩
  obtain ⟨d5, hd5⟩ : ∃ d, decide (1027 < k) = d := ⟨_, rfl⟩
  have i3 : decide ((30 : Int) < (k : Int)) = d3 := by rw [← hd3, decide_eq_decide]; omega
  have i4 : decide ((k : Int) ≤ (1024 : Int)) = d4 := by rw [← hd4, decide_eq_decide]; omega
  have i5 : decide ((1027 : Int) < (k : Int)) = d5 := by rw [← hd5, decide_eq_decide]; omega
  have HE := Lib.hid (show greatC S k = (d1 && d2 || d3 && d4 || d5) by
    unfold greatC
    rw [← hd1, ← hd2, ← hd3, ← hd4, ← hd5, Bool.eq_iff_iff]
    simp [or_assoc])
  rw [HE.out]
  clear HE
  cases d1 <;> cases d2 <;> cases d3 <;> cases d4 <;> cases d5
  all_goals
    go_enter Try.func12, Try.ntmps12
    go_wp2_with fail
    go_ret
    exact ⟨rfl, HB.out⟩
def fineC (L S : Int) (es : List E3) : Bool := !greatC S es.length && chkG L S es == 0
set_option maxRecDepth 100000 in
theorem fineC_any (L S : Int) (es : List E3) (v : Value) (w : World) (hrd : EdgesRd w v es) (hn : es.length ≤ 9223372036854775807) :
    Calls Try.prog 30 #[grV L S v] w fun e w' => e = .returned (.bool (fineC L S es)) ∧ Below w.heap.size w w' := by
  have HRD := Lib.hid hrd
  have b1 := below1 w (.cells #[.int .i64 L, .int .i64 S, v] 24)
  have G1 := Lib.hid (BoxG.new w L S v 24)
  have HB := Lib.hid b1
  have HCK := Lib.hid (fun W h => rcheck_any L S es v W h hn)
  obtain ⟨z, hz⟩ : ∃ z, chkG L S es = z := ⟨_, rfl⟩
  have HF := Lib.hid (show fineC L S es = (!greatC S es.length && z == 0) by unfold fineC; rw [hz])
  rw [hz] at HCK
  rw [HF.out]
  obtain ⟨a, c, rfl⟩ := hrd.form
  obtain ⟨x1, x2, x3⟩ := id G1.out
  have HG := Lib.hid (fun W => greatC_any L S a es.length c W)
  obtain ⟨d, hd⟩ : ∃ d, greatC S es.length = d := ⟨_, rfl⟩
  rw [hd] at HG
  rw [hd]
  clear hrd b1 hz hd HF
  cases d with
  | true =>
    go_enter Try.func30, Try.ntmps30
    go_wp2_with (go_at_call 12; (with_reducible refine (HG.out _).mono ?_); rintro e W2 ⟨rfl, b2⟩; (have B2 := Lib.hid (below_more HB.out (Nat.le_refl _) b2)); clear b2 x1 x2 x3)
    go_ret
    exact ⟨rfl, B2.out⟩
  | false =>
    go_enter Try.func30, Try.ntmps30
    go_wp2_with (first
      | (go_at_call 12; (with_reducible refine (HG.out _).mono ?_); rintro e W2 ⟨rfl, b2⟩; (have G2 := Lib.hid (G1.out.keep b2)); (have B2 := Lib.hid (below_more HB.out (Nat.le_refl _) b2)); clear b2 x1 x2 x3; (obtain ⟨x1, x2, x3⟩ := id G2.out))
      | (go_at_call 49; (with_reducible refine (HCK.out _ (HRD.out.keep B2.out)).mono ?_); rintro e W3 ⟨rfl, b3⟩; (have B3 := Lib.hid (below_more B2.out (Nat.le_refl _) b3)); clear b3 x1 x2 x3))
    go_ret
    exact ⟨by simp, B3.out⟩
/-! ### Lists of components -/
theorem take_eq_succ {α : Type} {a b : List α} {i : Nat} {x y : α} (ha : a[i]? = some x) (hb : b[i]? = some y) (h : a.take i = b.take i) (hxy : x = y) : a.take (i + 1) = b.take (i + 1) := by
  rw [List.take_add_one, List.take_add_one, ha, hb, h, hxy]
set_option maxRecDepth 100000 in
set_option maxHeartbeats 6400000 in
theorem same10_any (va vb : Value) (Xs Ys : List (List Int)) (w : World) (ha : RowsRd w va Xs) (hb : RowsRd w vb Ys) (hla : Xs.length ≤ 100000) (hlb : Ys.length ≤ 100000) (hra : ∀ r ∈ Xs, r.length ≤ 100000) (hrb : ∀ r ∈ Ys, r.length ≤ 100000) :
    Calls Try.prog 22 #[va, vb] w fun e w' => e = .returned (.bool (decide (Xs = Ys))) ∧ Below w.heap.size w w' := by
  have HA := Lib.hid ha
  have HB := Lib.hid hb
  have HRA := Lib.hid hra
  have HRB := Lib.hid hrb
  obtain ⟨a1, c1, rfl⟩ := ha.form
  obtain ⟨a2, c2, rfl⟩ := hb.form
  clear ha hb hra hrb
  by_cases hlen : Xs.length = Ys.length
  · have d0 : ((Xs.length : Int) != (Ys.length : Int)) = false := by rw [hlen]; simp
    have d0' : (Xs.length != Ys.length) = false := by rw [hlen]; simp
    have HL := Lib.hid hlen
    obtain ⟨m, hm⟩ : ∃ m, Xs.length = m := ⟨_, rfl⟩
    rw [hm] at HL
    have HL' := Lib.hid hm
    have T0 := Lib.hid (show Xs.take 0 = Ys.take 0 from rfl)
    rw [← hlen] at d0 d0' ⊢
    rw [hm] at d0 d0' hla ⊢
    clear hlen hm
    go_enter Try.func22, Try.ntmps22
    go_wp2_with fail
    go_loopg [5] m (fun q s5 wx => ∃ i : Nat, i + q = m ∧ s5 = .int .i64 (i : Int) ∧ Hid (Xs.take i = Ys.take i) ∧ Hid (Below w.heap.size w wx))
    case atStart => exact ⟨0, by omega, rfl, T0, Lib.hid (Below.refl _ _)⟩
    case round =>
      clear T0
      obtain ⟨i, him, rfl, HT, HW⟩ := hrel
      rcases gk with _ | q
      · obtain rfl : i = m := by omega
        have HEQ := Lib.hid (show decide (Xs = Ys) = true from decide_eq_true (by
          have := HT.out
          rwa [List.take_of_length_le (by rw [HL'.out]; exact Nat.le_refl _), List.take_of_length_le (by rw [← HL.out]; exact Nat.le_refl _)] at this))
        have j0 : decide ((i : Int) < (i : Int)) = false := decide_eq_false (by omega)
        go_wp2_with fail
        go_ret
        exact ⟨by rw [HEQ.out]; rfl, HW.out⟩
      · obtain ⟨ra, hra⟩ : ∃ r, Xs[i]? = some r := ⟨_, List.getElem?_eq_getElem (by rw [HL'.out]; omega)⟩
        obtain ⟨rb', hrb⟩ : ∃ r, Ys[i]? = some r := ⟨_, List.getElem?_eq_getElem (by rw [← HL.out]; omega)⟩
        obtain ⟨b1, o1, cc1, u1, hv1, k1, r1⟩ := HA.out.at hra
        obtain ⟨b2, o2, cc2, u2, hv2, k2, r2⟩ := HB.out.at hrb
        have hl1 := HRA.out ra (List.mem_of_getElem? hra)
        have hl2 := HRB.out rb' (List.mem_of_getElem? hrb)
        injection hv1 with e1 e2 e3
        injection hv2 with e4 e5 e6
        subst e1 e4
        obtain ⟨g1, q1, rfl⟩ := r1.form
        obtain ⟨g2, q2, rfl⟩ := r2.form
        have HR1 := Lib.hid r1
        have HR2 := Lib.hid r2
        have HRAE := Lib.hid hra
        have HRBE := Lib.hid hrb
        have j1 : (i : Int) < (m : Int) := by omega
        obtain ⟨n1, hn1⟩ : ∃ n1, ra.length = n1 := ⟨_, rfl⟩
        obtain ⟨n2, hn2⟩ : ∃ n2, rb'.length = n2 := ⟨_, rfl⟩
        have K1 := Lib.hid (fun X (h : Below w.heap.size w X) => cell_keep k1 h)
        have K2 := Lib.hid (fun X (h : Below w.heap.size w X) => cell_keep k2 h)
        have k1 := K1.out wr HW.out
        have k2 := K2.out wr HW.out
        have HN1 := Lib.hid hn1
        have HN2 := Lib.hid hn2
        rw [hn1] at k1 K1 HR1 hl1
        rw [hn2] at k2 K2 HR2 hl2
        clear e2 e3 e5 e6 hra hrb r1 r2 hn1 hn2
        by_cases hnn : n1 = n2
        · subst hnn
          have d1 : ((n1 : Int) != (n1 : Int)) = false := by simp
          go_wp2_with fail
          go_quiet (fail)
          go_wp2_with fail
          rename_i nq
          have hB5 := Lib.hid (below_drewM HW.out nq)
          have T1 := Lib.hid (show ra.take 0 = rb'.take 0 from rfl)
          generalize World.drewN wr nq = W5 at *
          clear k1 k2 HW
          go_loopg [6] n1 (fun q2 s6 wx => ∃ k : Nat, k + q2 = n1 ∧ s6 = .int .i64 (k : Int) ∧ Hid (ra.take k = rb'.take k) ∧ Hid (Below w.heap.size w wx))
          case atStart => exact ⟨0, by omega, rfl, T1, hB5⟩
          case round =>
            clear T1 hB5
            obtain ⟨k, hkm, rfl, HT2, HW2⟩ := hrel
            have k1 := K1.out _ HW2.out
            have k2 := K2.out _ HW2.out
            rcases gk with _ | q2
            · obtain rfl : k = n1 := by omega
              have j2 : decide ((k : Int) < (k : Int)) = false := decide_eq_false (by omega)
              have HT3 := Lib.hid (take_eq_succ HRAE.out HRBE.out HT.out (by
                have := HT2.out
                rwa [List.take_of_length_le (by rw [HN1.out]; exact Nat.le_refl _), List.take_of_length_le (by rw [HN2.out]; exact Nat.le_refl _)] at this))
              go_wp2_with fail
              go_roundg q
              case measure => omega
              case rel => exact ⟨i + 1, by omega, by go_num, HT3, HW2⟩
            · obtain ⟨x, hx⟩ : ∃ x, ra[k]? = some x := ⟨_, List.getElem?_eq_getElem (by rw [HN1.out]; omega)⟩
              obtain ⟨y, hy⟩ : ∃ y, rb'[k]? = some y := ⟨_, List.getElem?_eq_getElem (by rw [HN2.out]; omega)⟩
              obtain ⟨b3, o3, cc3, hv3, k3⟩ := (HR1.out.keep HW2.out).at hx
              obtain ⟨b4, o4, cc4, hv4, k4⟩ := (HR2.out.keep HW2.out).at hy
              injection hv3 with e1 e2 e3
              injection hv4 with e4 e5 e6
              subst e1 e4
              have j2 : (k : Int) < (n1 : Int) := by omega
              clear e2 e3 e5 e6
              by_cases hxy : x = y
              · have d2 : (x != y) = false := by simpa using hxy
                have HT3 := Lib.hid (take_eq_succ hx hy HT2.out hxy)
                clear hx hy hxy
                go_wp2_with fail
                go_quiet (fail)
                go_wp2_with fail
                go_roundg q2
                case measure => omega
                case rel => exact ⟨k + 1, by omega, by go_num, HT3, Lib.hid (below_drewM HW2.out _)⟩
              · have d2 : (x != y) = true := by simpa using hxy
                have HNE := Lib.hid (show decide (Xs = Ys) = false from decide_eq_false (fun h => by
                  have h1 := HRAE.out
                  rw [h, HRBE.out] at h1
                  injection h1 with h1
                  rw [← h1, hy] at hx
                  injection hx with hx
                  exact hxy hx.symm))
                clear hx hy hxy
                go_wp2_with fail
                go_quiet (fail)
                go_wp2_with fail
                go_ret
                exact ⟨by rw [HNE.out]; rfl, below_drewM HW2.out _⟩
        · have d1 : ((n1 : Int) != (n2 : Int)) = true := by simpa using fun h => hnn (by omega)
          have HNE := Lib.hid (show decide (Xs = Ys) = false from decide_eq_false (fun h => by
            have h1 := HRAE.out
            rw [h, HRBE.out] at h1
            injection h1 with h1
            exact hnn (by rw [← HN1.out, ← HN2.out, h1])))
          clear hnn
          go_wp2_with fail
          go_quiet (fail)
          go_wp2_with fail
          go_ret
          exact ⟨by rw [HNE.out]; rfl, below_drewM HW.out _⟩
  · have d0 : ((Xs.length : Int) != (Ys.length : Int)) = true := by simpa using fun h => hlen (by omega)
    have d0' : (Xs.length != Ys.length) = true := by simpa using hlen
    have HNE := Lib.hid (show decide (Xs = Ys) = false from decide_eq_false (fun h => hlen (by rw [h])))
    rw [HNE.out]
    clear hlen
    go_enter Try.func22, Try.ntmps22
    go_wp2_with fail
    go_ret
    exact ⟨rfl, Below.refl _ _⟩
end Go.Proofs.Ytfkplnmhlpabaaa
