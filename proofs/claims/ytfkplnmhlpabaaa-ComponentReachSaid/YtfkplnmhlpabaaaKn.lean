/- What groovelaw10.awake returns: true. No condition. -/
import Derived.Test.YtfkplnmhlpabaaaKm
namespace Go.Proofs.Ytfkplnmhlpabaaa
open Go.RowKit Go.Shelf
set_option linter.unusedSimpArgs false
set_option linter.unusedVariables false

abbrev gA : List E3 := [(0, 0, 1), (1, 0, 0), (1, 0, 2)]
abbrev gH : List E3 := [(0, 0, 1), (1, 0, 2), (2, 0, 0)]
theorem chkA : chkG 1 3 gA = 0 := by decide
theorem chkH : chkG 1 3 gH = 0 := by decide
theorem compsA : comps gA 3 = [[0, 1], [2]] := by decide +kernel
theorem ofA : partsR 1 3 gA (fun _ => true) = [[0, 1], [2]] := by unfold partsR; rw [if_pos chkA]; decide +kernel
theorem cycA : partsR 1 3 gA (fun c => hasEd gA c true) = [[0, 1]] := by unfold partsR; rw [if_pos chkA]; decide +kernel
theorem snkA : partsR 1 3 gA (fun c => !hasEd gA c false) = [[2]] := by unfold partsR; rw [if_pos chkA]; decide +kernel
theorem errA : errC 1 3 gA = 0 := by unfold errC; rw [if_pos chkA]
theorem perH : perR 1 3 gH = 3 := by decide +kernel
theorem perEH : perE 1 3 gH = 0 := by decide +kernel
theorem clsH : clsR 1 3 gH = [0, 1, 2] := by decide +kernel
theorem rows_head {W : World} {b off c : Nat} {x : List Int} {xs : List (List Int)} {k : Nat} (h : RowsRd W (.slice (some ⟨b, off, none⟩) k c) (x :: xs)) (c' : Nat) : RowsRd W (.slice (some ⟨b, off, none⟩) 1 c') [x] := by
  refine ⟨_, _, rfl, fun i r hr => ?_⟩
  obtain ⟨a, cc, hv, h1⟩ := h
  injection hv with e1 e2 e3
  subst e1
  match i, hr with
  | 0, hr =>
    simp at hr
    subst hr
    exact h1 0 x rfl
theorem rows_tail {W : World} {b off c : Nat} {x : List Int} {xs : List (List Int)} {k : Nat} (h : RowsRd W (.slice (some ⟨b, off, none⟩) k c) (x :: xs)) (c' : Nat) : RowsRd W (.slice (some ⟨b, off + 1, none⟩) xs.length c') xs := by
  refine ⟨_, _, rfl, fun i r hr => ?_⟩
  obtain ⟨a, cc, hv, h1⟩ := h
  injection hv with e1 e2 e3
  subst e1
  obtain ⟨b', o', u, h2, h3, h4⟩ := h1 (i + 1) r (by simpa using hr)
  injection h2 with h2
  injection h2 with h5 h6
  subst h5 h6
  exact ⟨b, off + 1, u, rfl, by rw [show off + 1 + i = off + (i + 1) by omega]; exact h3, h4⟩
theorem intsNew (W : World) (l : List Int) (h0 : 0 < l.length) (hl : l.length ≤ 1000) : IntsRd (W.alloc (.cells (intz l).toArray 3)) (.slice (some ⟨W.heap.size, 0, none⟩) l.length l.length) l := (intsLit W l h0 hl).rd
theorem same10_yes (va vb : Value) (xs : List (List Int)) (w : World) (ha : RowsRd w va xs) (hb : RowsRd w vb xs) (hla : xs.length ≤ 100000) (hra : ∀ r ∈ xs, r.length ≤ 100000) :
    Calls Try.prog 22 #[va, vb] w fun e w' => e = .returned (.bool true) ∧ Below w.heap.size w w' := by
  have h := same10_any va vb xs xs w ha hb hla hla hra hra
  rwa [show decide (xs = xs) = true from decide_eq_true rfl] at h
/-- What awake keeps: its two graphs. -/
structure AW (w : World) (p q : Nat) (va vh : Value) (X : World) : Prop where
  ea : EdgesRd X va gA
  ba : BoxG X p 1 3 va
  eh : EdgesRd X vh gH
  bh : BoxG X q 1 3 vh
  b : Below w.heap.size w X
theorem AW.keep {w X Y : World} {p q : Nat} {va vh : Value} (h : AW w p q va vh X) (hb : Below X.heap.size X Y) : AW w p q va vh Y :=
  ⟨h.ea.keep hb, h.ba.keep hb, h.eh.keep hb, h.bh.keep hb, below_more h.b (Nat.le_refl _) hb⟩
theorem aw_start (w : World) : AW w (w.heap.size + 1) (w.heap.size + 1 + 1 + 1) (.slice (some ⟨w.heap.size, 0, none⟩) 3 3) (.slice (some ⟨w.heap.size + 1 + 1, 0, none⟩) 3 3)
    ((((w.alloc (.cells #[.int .i64 0, .int .i64 0, .int .i64 1, .int .i64 1, .int .i64 0, .int .i64 0, .int .i64 1, .int .i64 0, .int .i64 2] 46)).alloc (.cells #[.int .i64 1, .int .i64 3, .slice (some ⟨w.heap.size, 0, none⟩) 3 3] 24)).alloc (.cells #[.int .i64 0, .int .i64 0, .int .i64 1, .int .i64 1, .int .i64 0, .int .i64 2, .int .i64 2, .int .i64 0, .int .i64 0] 46)).alloc (.cells #[.int .i64 1, .int .i64 3, .slice (some ⟨w.heap.size + 1 + 1, 0, none⟩) 3 3] 24)) := by
  have e1 : EdgesRd (w.alloc (.cells #[.int .i64 0, .int .i64 0, .int .i64 1, .int .i64 1, .int .i64 0, .int .i64 0, .int .i64 1, .int .i64 0, .int .i64 2] 46)) (.slice (some ⟨w.heap.size, 0, none⟩) 3 3) gA := (edgesLit w gA (by decide) (by decide)).rd
  have b1 := below1 w (.cells #[.int .i64 0, .int .i64 0, .int .i64 1, .int .i64 1, .int .i64 0, .int .i64 0, .int .i64 1, .int .i64 0, .int .i64 2] 46)
  have s1 := World.size_alloc w (.cells #[.int .i64 0, .int .i64 0, .int .i64 1, .int .i64 1, .int .i64 0, .int .i64 0, .int .i64 1, .int .i64 0, .int .i64 2] 46)
  generalize w.alloc (.cells #[.int .i64 0, .int .i64 0, .int .i64 1, .int .i64 1, .int .i64 0, .int .i64 0, .int .i64 1, .int .i64 0, .int .i64 2] 46) = W1 at *
  have g2 := BoxG.new W1 1 3 (.slice (some ⟨w.heap.size, 0, none⟩) 3 3) 24
  have k2 := below1 W1 (.cells #[.int .i64 1, .int .i64 3, .slice (some ⟨w.heap.size, 0, none⟩) 3 3] 24)
  have s2 := World.size_alloc W1 (.cells #[.int .i64 1, .int .i64 3, .slice (some ⟨w.heap.size, 0, none⟩) 3 3] 24)
  have e2 := e1.keep k2
  have b2 := below_more b1 (Nat.le_refl _) k2
  rw [s1] at g2
  clear e1 b1 k2
  generalize W1.alloc (.cells #[.int .i64 1, .int .i64 3, .slice (some ⟨w.heap.size, 0, none⟩) 3 3] 24) = W2 at *
  have e3 : EdgesRd (W2.alloc (.cells #[.int .i64 0, .int .i64 0, .int .i64 1, .int .i64 1, .int .i64 0, .int .i64 2, .int .i64 2, .int .i64 0, .int .i64 0] 46)) (.slice (some ⟨W2.heap.size, 0, none⟩) 3 3) gH := (edgesLit W2 gH (by decide) (by decide)).rd
  have k3 := below1 W2 (.cells #[.int .i64 0, .int .i64 0, .int .i64 1, .int .i64 1, .int .i64 0, .int .i64 2, .int .i64 2, .int .i64 0, .int .i64 0] 46)
  have s3 := World.size_alloc W2 (.cells #[.int .i64 0, .int .i64 0, .int .i64 1, .int .i64 1, .int .i64 0, .int .i64 2, .int .i64 2, .int .i64 0, .int .i64 0] 46)
  have e33 := e2.keep k3
  have g3 := g2.keep k3
  have b3 := below_more b2 (Nat.le_refl _) k3
  rw [s2, s1] at e3 s3
  clear e2 g2 b2 k3
  generalize W2.alloc (.cells #[.int .i64 0, .int .i64 0, .int .i64 1, .int .i64 1, .int .i64 0, .int .i64 2, .int .i64 2, .int .i64 0, .int .i64 0] 46) = W3 at *
  have k4 := below1 W3 (.cells #[.int .i64 1, .int .i64 3, .slice (some ⟨w.heap.size + 1 + 1, 0, none⟩) 3 3] 24)
  have g4 := BoxG.new W3 1 3 (.slice (some ⟨w.heap.size + 1 + 1, 0, none⟩) 3 3) 24
  rw [s3] at g4
  exact ⟨e33.keep k4, g3.keep k4, e3.keep k4, g4, below_more b3 (Nat.le_refl _) k4⟩
theorem lit2 (X : World) : RowsRd (((X.alloc (.cells #[.int .i64 0, .int .i64 1] 3)).alloc (.cells #[.int .i64 2] 3)).alloc (.cells #[.slice (some ⟨X.heap.size, 0, none⟩) 2 2, .slice (some ⟨X.heap.size + 1, 0, none⟩) 1 1] 34)) (.slice (some ⟨X.heap.size + 1 + 1, 0, none⟩) 2 2) [[0, 1], [2]] := by
  have e1 := intsNew X [0, 1] (by decide) (by decide)
  have s1 := World.size_alloc X (.cells #[.int .i64 0, .int .i64 1] 3)
  have e1' : IntsRd (X.alloc (.cells #[.int .i64 0, .int .i64 1] 3)) (.slice (some ⟨X.heap.size, 0, none⟩) 2 2) [0, 1] := e1
  clear e1
  generalize X.alloc (.cells #[.int .i64 0, .int .i64 1] 3) = X1 at *
  have e2 : IntsRd (X1.alloc (.cells #[.int .i64 2] 3)) (.slice (some ⟨X1.heap.size, 0, none⟩) 1 1) [2] := intsNew X1 [2] (by decide) (by decide)
  have k2 := below1 X1 (.cells #[.int .i64 2] 3)
  have s2 := World.size_alloc X1 (.cells #[.int .i64 2] 3)
  have e12 := e1'.keep k2
  rw [s1] at e2 s2
  clear e1' k2
  generalize X1.alloc (.cells #[.int .i64 2] 3) = X2 at *
  have k3 := below1 X2 (.cells #[.slice (some ⟨X.heap.size, 0, none⟩) 2 2, .slice (some ⟨X.heap.size + 1, 0, none⟩) 1 1] 34)
  rw [← s2]
  refine ⟨_, _, rfl, fun i r hr => ?_⟩
  match i, hr with
  | 0, hr =>
    simp at hr
    subst hr
    exact ⟨_, _, _, rfl, by simp [go_sem], e12.keep k3⟩
  | 1, hr =>
    simp at hr
    subst hr
    exact ⟨_, _, _, rfl, by simp [go_sem], e2.keep k3⟩
set_option maxRecDepth 100000 in
set_option maxHeartbeats 12800000 in
theorem awake_any (w : World) : Calls Try.prog 13 #[] w fun e w' => e = .returned (.bool true) ∧ Below w.heap.size w w' := by
  have H0 := Lib.hid (aw_start w)
  go_enter Try.func13, Try.ntmps13
  go_upto_region 3 with fail
  generalize ((((w.alloc (.cells #[.int .i64 0, .int .i64 0, .int .i64 1, .int .i64 1, .int .i64 0, .int .i64 0, .int .i64 1, .int .i64 0, .int .i64 2] 46)).alloc (.cells #[.int .i64 1, .int .i64 3, .slice (some ⟨w.heap.size, 0, none⟩) 3 3] 24)).alloc (.cells #[.int .i64 0, .int .i64 0, .int .i64 1, .int .i64 1, .int .i64 0, .int .i64 2, .int .i64 2, .int .i64 0, .int .i64 0] 46)).alloc (.cells #[.int .i64 1, .int .i64 3, .slice (some ⟨w.heap.size + 1 + 1, 0, none⟩) 3 3] 24)) = X0 at *
  have HOF := Lib.hid (fun X v h => ofA ▸ errA ▸ of_any 1 3 gA v X h (by decide))
  have HCY := Lib.hid (fun X v h => cycA ▸ errA ▸ cyclic_any 1 3 gA v X h (by decide))
  have HSN := Lib.hid (fun X v h => snkA ▸ errA ▸ sinks_any 1 3 gA v X h (by decide))
  have HPE := Lib.hid (fun X v h => perH ▸ perEH ▸ period_any 1 3 gH v X h (by decide))
  have HCL := Lib.hid (fun X v h => clsH ▸ perEH ▸ classes_any 1 3 gH v X h (by decide))
  obtain ⟨x1, x2, x3⟩ := id H0.out.ba
  go_upto_region 8 with (first
    | (go_at_call 14; (with_reducible refine (HOF.out _ _ H0.out.ea).mono ?_); rintro e X1 ⟨v1, rfl, r1, b1, q1⟩; (have H1 := Lib.hid (H0.out.keep b1)); (have RA := Lib.hid r1); (have QA := Lib.hid q1); clear b1 r1 q1 x1 x2 x3; (obtain ⟨x1, x2, x3⟩ := id H1.out.ba))
    | (go_at_call 16; (with_reducible refine (HCY.out _ _ H1.out.ea).mono ?_); rintro e X2 ⟨v2, rfl, r2, b2, q2⟩; (have H2 := Lib.hid (H1.out.keep b2)); (have RA2 := Lib.hid (RA.out.keep b2)); (have RB := Lib.hid r2); clear b2 r2 q2 x1 x2 x3; (obtain ⟨x1, x2, x3⟩ := id H2.out.ba))
    | (go_at_call 18; (with_reducible refine (HSN.out _ _ H2.out.ea).mono ?_); rintro e X3 ⟨v3, rfl, r3, b3, q3⟩; (have H3 := Lib.hid (H2.out.keep b3)); (have RA3 := Lib.hid (RA2.out.keep b3)); (have RB3 := Lib.hid (RB.out.keep b3)); (have RC := Lib.hid r3); clear b3 r3 q3 x1 x2 x3; (obtain ⟨x1, x2, x3⟩ := id H3.out.bh))
    | (go_at_call 25; (with_reducible refine (HPE.out _ _ H3.out.eh).mono ?_); rintro e X4 ⟨rfl, b4⟩; (have H4 := Lib.hid (H3.out.keep b4)); (have RA4 := Lib.hid (RA3.out.keep b4)); (have RB4 := Lib.hid (RB3.out.keep b4)); (have RC4 := Lib.hid (RC.out.keep b4)); clear b4 x1 x2 x3; (obtain ⟨x1, x2, x3⟩ := id H4.out.bh))
    | (go_at_call 27; (with_reducible refine (HCL.out _ _ H4.out.eh).mono ?_); rintro e X5 ⟨v5, rfl, i5, b5⟩; (have H5 := Lib.hid (H4.out.keep b5)); (have RA5 := Lib.hid (RA4.out.keep b5)); (have RB5 := Lib.hid (RB4.out.keep b5)); (have RC5 := Lib.hid (RC4.out.keep b5)); (have RD5 := Lib.hid i5); clear b5 i5 x1 x2 x3))
  obtain ⟨bb, oo, cc, uu, rfl, -, -⟩ := RA5.out.at (i := 0) (r := [0, 1]) rfl
  obtain ⟨qa, qn, qc, qv, hcap⟩ := QA.out
  injection qv with q1 q2 q3
  subst q2 q3
  have hc2 : 2 ≤ cc := by simpa using hcap
  have hc1 : (1 : Int) ≤ (cc : Int) := by omega
  have hc3 : 1 ≤ cc := by omega
  have hc4 : ¬ cc = 1 := by omega
  have kl := below_more (below_more (below1 X5 (.cells #[.int .i64 0, .int .i64 1] 3)) (Nat.le_refl _) (below1 _ (.cells #[.int .i64 2] 3))) (Nat.le_refl _) (below1 _ (.cells #[.slice (some ⟨X5.heap.size, 0, none⟩) 2 2, .slice (some ⟨X5.heap.size + 1, 0, none⟩) 1 1] 34))
  have RAx := Lib.hid (show RowsRd X5 (.slice (some ⟨bb, oo, none⟩) 2 cc) [[0, 1], [2]] from RA5.out)
  have HS1 := Lib.hid (same10_yes _ _ _ _ (RAx.out.keep kl) (lit2 X5) (by decide) (by decide))
  have HKL := Lib.hid kl
  clear kl hcap q1
  go_wp2_with (first
    | (go_at_call 22; (with_reducible refine HS1.out.mono ?_); rintro e Y1 ⟨rfl, b6⟩; (have k6 := below_more HKL.out (Nat.le_refl _) b6); (have H6 := Lib.hid (H5.out.keep k6)); (have RA6 := Lib.hid (RAx.out.keep k6)); (have RB6 := Lib.hid (RB5.out.keep k6)); (have RC6 := Lib.hid (RC5.out.keep k6)); (have RD6 := Lib.hid (RD5.out.keep k6)); clear b6 k6 HS1 HKL; (have HS2 := Lib.hid (same10_yes _ _ _ _ RB6.out (rows_head RA6.out cc) (by decide) (by decide))))
    | (go_at_call 22; (with_reducible refine HS2.out.mono ?_); rintro e Y2 ⟨rfl, b7⟩; (have H7 := Lib.hid (H6.out.keep b7)); (have RA7 := Lib.hid (RA6.out.keep b7)); (have RC7 := Lib.hid (RC6.out.keep b7)); (have RD7 := Lib.hid (RD6.out.keep b7)); clear b7 HS2; (have HS3 := Lib.hid (same10_yes _ _ _ _ RC7.out (show RowsRd Y2 (.slice (some ⟨bb, oo + 1, none⟩) 1 (cc - 1)) [[2]] from rows_tail RA7.out (cc - 1)) (by decide) (by decide))))
    | (go_at_call 22; (with_reducible refine HS3.out.mono ?_); rintro e Y3 ⟨rfl, b8⟩; (have H8 := Lib.hid (H7.out.keep b8)); (have RD8 := Lib.hid (RD7.out.keep b8)); clear b8 HS3)
    | (go_at_call 29; refine (intsEq_any (RD8.out.keep (below1 Y3 (.cells #[.int .i64 0, .int .i64 1, .int .i64 2] 3))) (intsNew Y3 [0, 1, 2] (by decide) (by decide)) (by decide) (by decide)).mono ?_; rintro e Y4 ⟨rfl, b9⟩; (rw [show decide ([(0 : Int), 1, 2] = [0, 1, 2]) = true by decide]); (have B9 := Lib.hid ((H8.out.keep (below1 Y3 (.cells #[.int .i64 0, .int .i64 1, .int .i64 2] 3))).keep b9).b); clear b9))
  go_ret
  exact ⟨rfl, B9.out⟩
end Go.Proofs.Ytfkplnmhlpabaaa
