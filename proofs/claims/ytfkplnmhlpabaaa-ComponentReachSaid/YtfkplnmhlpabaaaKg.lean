/- What component.lengths returns: the search in depth. Conditions: at most 64 states, rows of states. -/
import Derived.Test.YtfkplnmhlpabaaaKf
namespace Go.Proofs.Ytfkplnmhlpabaaa
open Go.RowKit
set_option linter.unusedSimpArgs false
set_option linter.unusedVariables false

@[go_sem] theorem run_store_func {P : Program} {w : World} (a : Addr) (m : Mode) (f : Fn) (ts cs : Array Value) : (store a (.func f ts cs) m).run P w = stored P w a (.func f ts cs) m := run_store P w a _ m rfl
/-- Between the calls of visit: its three variables, and the row of what is found. -/
structure VS (w : World) (n p2 g p5 p6 : Nat) (vn : Value) (f : Nat → Int) (W : World) : Prop where
  b : Below w.heap.size w W
  x2 : W.cell? ⟨p2, 0, none⟩ = some vn
  x5 : W.cell? ⟨p5, 0, none⟩ = some (.slice (some ⟨g, 0, none⟩) n n)
  x6 : W.cell? ⟨p6, 0, none⟩ = some (.func (.func 79) #[] #[.pointer (some ⟨p5, 0, none⟩), .pointer (some ⟨p2, 0, none⟩), .pointer (some ⟨p6, 0, none⟩)])
  r : IRow W g n f
  n2 : g ≠ p2
  n5 : g ≠ p5
  n6 : g ≠ p6
  lo : w.heap.size ≤ g
section
variable {w W W' : World} {n p2 g p5 p6 : Nat} {vn : Value} {f f' : Nat → Int}
theorem VS.keep (h : VS w n p2 g p5 p6 vn f W) (hb : Below W.heap.size W W') : VS w n p2 g p5 p6 vn f W' :=
  ⟨h.b.trans (hb.mono h.b.size), cell_keep h.x2 hb, cell_keep h.x5 hb, cell_keep h.x6 hb, h.r.keep hb, h.n2, h.n5, h.n6, h.lo⟩
theorem VS.set (h : VS w n p2 g p5 p6 vn f W) (s : Nat) (l : Int) : VS w n p2 g p5 p6 vn (setN f s l) (W.setCell ⟨g, s, none⟩ (.int .i64 l)) := by
  refine ⟨h.b.setCell h.lo _, ?_, ?_, ?_, h.r.set s l, h.n2, h.n5, h.n6, h.lo⟩
  · rw [World.cell?_setCell_far _ _ _ _ (by exact h.n2)]; exact h.x2
  · rw [World.cell?_setCell_far _ _ _ _ (by exact h.n5)]; exact h.x5
  · rw [World.cell?_setCell_far _ _ _ _ (by exact h.n6)]; exact h.x6
end
def foldG (nx : Nat → List Int) (k : Nat) (l : Int) (ts : List Int) (f : Nat → Int) : Nat → Int := ts.foldl (fun g t => dfsA nx k g t.toNat (l + 1)) f
theorem foldG_snoc (nx : Nat → List Int) (k : Nat) (l : Int) (ts : List Int) (t : Int) (f : Nat → Int) : foldG nx k l (ts ++ [t]) f = dfsA nx k (foldG nx k l ts f) t.toNat (l + 1) := by
  unfold foldG; rw [List.foldl_append]; rfl
theorem foldG_unf (nx : Nat → List Int) (n k : Nat) (l : Int) : ∀ (ts : List Int) (f : Nat → Int), unf n (foldG nx k l ts f) ≤ unf n f
  | [], f => Nat.le_refl _
  | t :: ts, f => Nat.le_trans (foldG_unf nx n k l ts _) (unf_dfs nx n k f t.toNat (l + 1))
set_option maxRecDepth 100000 in
set_option maxHeartbeats 6400000 in
theorem visit_step (w : World) (n p2 g p5 p6 : Nat) (vn : Value) (nx : Nat → List Int) (hn : n ≤ 64) (hrd : RowsRd w vn ((List.range n).map nx)) (hnx : ∀ s, s < n → ∀ u ∈ nx s, 0 ≤ u ∧ u < (n : Int)) (hlen : ∀ s, (nx s).length ≤ 100000) (k : Nat)
    (IH : ∀ (f : Nat → Int) (s : Nat) (l : Nat) (W : World), VS w n p2 g p5 p6 vn f W → s < n → l + unf n f ≤ 64 → unf n f ≤ k →
      Calls Try.prog 79 #[.int .i64 (s : Int), .int .i64 (l : Int), .pointer (some ⟨p5, 0, none⟩), .pointer (some ⟨p2, 0, none⟩), .pointer (some ⟨p6, 0, none⟩)] W fun e W' => (∃ u, e = .returned u) ∧ VS w n p2 g p5 p6 vn (dfsA nx (k + 1) f s (l : Int)) W')
    (f : Nat → Int) (s : Nat) (l : Nat) (W : World) (hV : VS w n p2 g p5 p6 vn f W) (hs : s < n) (hl : l + unf n f ≤ 64) (hk : unf n f ≤ k + 1) (hf : f s = -1) :
    Calls Try.prog 79 #[.int .i64 (s : Int), .int .i64 (l : Int), .pointer (some ⟨p5, 0, none⟩), .pointer (some ⟨p2, 0, none⟩), .pointer (some ⟨p6, 0, none⟩)] W fun e W' => (∃ u, e = .returned u) ∧ VS w n p2 g p5 p6 vn (dfsA nx (k + 2) f s (l : Int)) W' := by
  have HIH := Lib.hid IH
  have HNX := Lib.hid (hnx s hs)
  have h0 := unf_set (l := (l : Int)) hs hf (by omega)
  have hu : unf n (setN f s (l : Int)) ≤ k := by omega
  have hlu : l + 1 + unf n (setN f s (l : Int)) ≤ 64 := by omega
  have hl64 : l ≤ 64 := by omega
  have HD := Lib.hid (show dfsA nx (k + 2) f s (l : Int) = foldG nx (k + 1) (l : Int) (nx s) (setN f s (l : Int)) from dfsA_new hf)
  have hL := hlen s
  have x5 := hV.x5
  have x2 := hV.x2
  have c0 := hV.r.cell hs
  rw [hf] at c0
  have f0 := hV.r.frozen s
  have V1 := hV.set s (l : Int)
  have x22 := V1.x2
  obtain ⟨rb, off, c, u, hvn, k1, k2⟩ := hrd.at (i := s) (r := nx s) (by rw [List.getElem?_map, List.getElem?_range hs]; rfl)
  have hrl : ((List.range n).map nx).length = n := by rw [List.length_map, List.length_range]
  rw [hrl] at hvn
  have HK2 := Lib.hid k2
  have k1W := cell_keep k1 hV.b
  have k1V := cell_keep k1 V1.b
  obtain ⟨a9, c9, rfl⟩ := k2.form
  subst hvn
  have HV1 := Lib.hid V1
  have j0 : (s : Int) < (n : Int) := by omega
  clear hV V1 IH hrd hnx hlen hf h0 k1 k2 hrl
  go_enter Try.func79, Try.ntmps79
  go_wp2_with fail
  clear x5 x2 c0 f0 x22 k1W k1V
  generalize W.setCell ⟨g, s, none⟩ (.int .i64 (l : Int)) = W1 at *
  go_loopg [23] (nx s).length (fun q s23 wx => ∃ i : Nat, i + q = (nx s).length ∧ s23 = .int .i64 (i : Int) ∧ Hid (VS w n p2 g p5 p6 (.slice (some ⟨rb, off, none⟩) n c) (foldG nx (k + 1) (l : Int) ((nx s).take i) (setN f s (l : Int))) wx))
  case atStart => exact ⟨0, by omega, rfl, HV1⟩
  case round =>
    clear HV1
    obtain ⟨i, hin, rfl, HV⟩ := hrel
    rcases gk with _ | q
    · obtain rfl : i = (nx s).length := by omega
      rw [List.take_length] at HV
      go_wp2_with fail
      go_end0
      exact ⟨⟨_, rfl⟩, by rw [HD.out]; exact HV.out⟩
    · obtain ⟨t, ht⟩ : ∃ t, (nx s)[i]? = some t := ⟨_, List.getElem?_eq_getElem (by omega)⟩
      obtain ⟨t0, t1⟩ := HNX.out t (List.mem_of_getElem? ht)
      obtain ⟨b, o, cc, hv, k1⟩ := (HK2.out.keep HV.out.b).at ht
      injection hv with e1 e2 e3
      subst e1
      have HT := Lib.hid (take_snoc ht)
      obtain ⟨t, rfl⟩ : ∃ m : Nat, t = (m : Int) := ⟨t.toNat, by omega⟩
      have htn : t < n := by omega
      have hfu := foldG_unf nx n (k + 1) (l : Int) ((nx s).take i) (setN f s (l : Int))
      have x6 := HV.out.x6
      have HC := Lib.hid (fun X hX => HIH.out (foldG nx (k + 1) (l : Int) ((nx s).take i) (setN f s (l : Int))) t (l + 1) X hX htn (by omega) (by omega))
      rw [show ((l + 1 : Nat) : Int) = (l : Int) + 1 by omega] at HC
      have j1 : (i : Int) < ((nx s).length : Int) := by omega
      clear ht hfu e2 e3
      go_wp2_with (go_at_call 79; (with_reducible refine (HC.out _ HV.out).mono ?_); rintro e W5 ⟨⟨u5, rfl⟩, hv5⟩; (have HV5 := Lib.hid hv5); clear hv5)
      go_roundg q
      case measure => omega
      case rel => exact ⟨i + 1, by omega, by go_num, by rw [HT.out, foldG_snoc]; exact HV5⟩
/-- What a call of visit does. -/
theorem visit_any (w : World) (n p2 g p5 p6 : Nat) (vn : Value) (nx : Nat → List Int) (hn : n ≤ 64) (hrd : RowsRd w vn ((List.range n).map nx)) (hnx : ∀ s, s < n → ∀ u ∈ nx s, 0 ≤ u ∧ u < (n : Int)) (hlen : ∀ s, (nx s).length ≤ 100000) : ∀ (k : Nat)
    (f : Nat → Int) (s : Nat) (l : Nat) (W : World), VS w n p2 g p5 p6 vn f W → s < n → l + unf n f ≤ 64 → unf n f ≤ k →
      Calls Try.prog 79 #[.int .i64 (s : Int), .int .i64 (l : Int), .pointer (some ⟨p5, 0, none⟩), .pointer (some ⟨p2, 0, none⟩), .pointer (some ⟨p6, 0, none⟩)] W fun e W' => (∃ u, e = .returned u) ∧ VS w n p2 g p5 p6 vn (dfsA nx (k + 1) f s (l : Int)) W' := by
  have found : ∀ (k : Nat) (f : Nat → Int) (s : Nat) (l : Nat) (W : World), VS w n p2 g p5 p6 vn f W → s < n → f s ≠ -1 →
      Calls Try.prog 79 #[.int .i64 (s : Int), .int .i64 (l : Int), .pointer (some ⟨p5, 0, none⟩), .pointer (some ⟨p2, 0, none⟩), .pointer (some ⟨p6, 0, none⟩)] W fun e W' => (∃ u, e = .returned u) ∧ VS w n p2 g p5 p6 vn (dfsA nx (k + 1) f s (l : Int)) W' := by
    intro k f s l W hV hs hf
    rw [dfsA_found hf]
    have x5 := hV.x5
    have c0 := hV.r.cell hs
    have j0 : (s : Int) < (n : Int) := by omega
    obtain ⟨z, hz⟩ : ∃ z, f s = z := ⟨_, rfl⟩
    rw [hz] at c0 hf
    have j1 : (z != -1) = true := by simpa using hf
    have HV := Lib.hid hV
    clear hV hrd hnx hlen hz
    go_enter Try.func79, Try.ntmps79
    go_wp2_with fail
    refine bodyPost_ret (results_none rfl _ _ _) rfl ?_
    exact ⟨⟨_, rfl⟩, HV.out⟩
  intro k
  induction k with
  | zero =>
    intro f s l W hV hs hl hk
    refine found 0 f s l W hV hs (fun h => ?_)
    have := unf_set (l := (0 : Int)) hs h (by omega)
    omega
  | succ k ih =>
    intro f s l W hV hs hl hk
    by_cases hf : f s = -1
    · exact visit_step w n p2 g p5 p6 vn nx hn hrd hnx hlen k ih f s l W hV hs hl hk hf
    · exact found (k + 1) f s l W hV hs hf
theorem vs_start {w W4 : World} {n p5 : Nat} {vn : Value} (b4 : Below w.heap.size w W4) (hlt : w.heap.size + 2 < p5) (h5 : p5 < W4.heap.size) (c0 : W4.cell? ⟨w.heap.size, 0, none⟩ = some vn) (c5 : W4.cell? ⟨p5, 0, none⟩ = some (.slice (some ⟨w.heap.size + 2, 0, none⟩) n n)) (i4 : IRow W4 (w.heap.size + 2) n (fun _ => -1)) :
    VS w n w.heap.size (w.heap.size + 2) p5 W4.heap.size vn (fun _ => -1) (W4.alloc (.cells #[.func (.func 79) #[] #[.pointer (some ⟨p5, 0, none⟩), .pointer (some ⟨w.heap.size, 0, none⟩), .pointer (some ⟨W4.heap.size, 0, none⟩)]] 85)) := by
  have k5 := below1 W4 (.cells #[.func (.func 79) #[] #[.pointer (some ⟨p5, 0, none⟩), .pointer (some ⟨w.heap.size, 0, none⟩), .pointer (some ⟨W4.heap.size, 0, none⟩)]] 85)
  refine ⟨below_more b4 (Nat.le_refl _) k5, cell_keep c0 k5, cell_keep c5 k5, ?_, i4.keep k5, by omega, by omega, by omega, by omega⟩
  simp [go_sem]
set_option maxRecDepth 100000 in
set_option maxHeartbeats 6400000 in
theorem lengths_any (n : Nat) (vn : Value) (nx : Nat → List Int) (s : Nat) (w : World) (hn : n ≤ 64) (hrd : RowsRd w vn ((List.range n).map nx)) (hnx : ∀ s, s < n → ∀ u ∈ nx s, 0 ≤ u ∧ u < (n : Int)) (hlen : ∀ s, (nx s).length ≤ 100000) (hs : s < n) :
    Calls Try.prog 56 #[vn, .int .i64 (s : Int)] w fun e w' => e = .returned (.slice (some ⟨w.heap.size + 2, 0, none⟩) n n) ∧ IRow w' (w.heap.size + 2) n (dfsA nx (n + 1) (fun _ => -1) s 0) ∧ Below w.heap.size w w' := by
  obtain ⟨a, c, hvn⟩ := hrd.form
  rw [List.length_map, List.length_range] at hvn
  subst hvn
  have HRD := Lib.hid hrd
  have HNX := Lib.hid hnx
  have HL := Lib.hid hlen
  have hnp : (-1 : Int) < 0 := by decide
  obtain ⟨W1, hW1⟩ : ∃ W1, w.alloc (.cells #[.slice a n c] 27) = W1 := ⟨_, rfl⟩
  have z1 : W1.heap.size = w.heap.size + 1 := by rw [← hW1, World.size_alloc]
  have c1 : W1.cell? ⟨w.heap.size, 0, none⟩ = some (.slice a n c) := by rw [← hW1]; simp [go_sem]
  have b1 : Below w.heap.size w W1 := by rw [← hW1]; exact below1 _ _
  obtain ⟨W2, hW2⟩ : ∃ W2, W1.alloc (.cells #[.int .i64 (-1)] 3) = W2 := ⟨_, rfl⟩
  have z2 : W2.heap.size = w.heap.size + 2 := by rw [← hW2, World.size_alloc]; omega
  have c2 : W2.cell? ⟨w.heap.size + 1, 0, none⟩ = some (.int .i64 (-1)) := by rw [← hW2, ← z1]; simp [go_sem]
  have c1' : W2.cell? ⟨w.heap.size, 0, none⟩ = some (.slice a n c) := by rw [← hW2]; exact cell_keep c1 (below1 _ _)
  have b2 : Below w.heap.size w W2 := by rw [← hW2]; exact below_more b1 (Nat.le_refl _) (below1 _ _)
  have hr := repeatI_any n (w.heap.size + 1) 1 W2 hn c2
  rw [z2] at hr
  rw [← hW2, ← hW1] at hr
  have HR := Lib.hid hr
  have HB2 := Lib.hid b2
  have HC1 := Lib.hid c1'
  have HZ2 := Lib.hid z2
  rw [← hW2, ← hW1] at HB2 HC1 HZ2
  clear hrd hnx hlen b1 b2 hr hW1 hW2 c1 c1' c2 z1 z2
  clear W2 W1
  have c1 : (w.alloc (.cells #[.slice a n c] 27)).cell? ⟨w.heap.size, 0, none⟩ = some (.slice a n c) := by simp [go_sem]
  have hb3 := Lib.hid (fun W3 (h : Below (w.heap.size + 2) ((w.alloc (.cells #[.slice a n c] 27)).alloc (.cells #[.int .i64 (-1)] 3)) W3) => show Below w.heap.size w W3 from below_more HB2.out (by omega) (by rw [HZ2.out]; exact h))
  have hc3 := Lib.hid (fun W3 (h : Below (w.heap.size + 2) ((w.alloc (.cells #[.slice a n c] 27)).alloc (.cells #[.int .i64 (-1)] 3)) W3) => show W3.cell? ⟨w.heap.size, 0, none⟩ = some (.slice a n c) from cell_keep HC1.out (by rw [HZ2.out]; exact h))
  have hu := Lib.hid (unf_le n (fun _ => -1))
  have HVA := Lib.hid (fun p5 p6 W hW => visit_any w n w.heap.size (w.heap.size + 2) p5 p6 (.slice a n c) nx hn HRD.out HNX.out HL.out n (fun _ => -1) s 0 W hW hs (by have := hu.out; omega) hu.out)
  rw [show ((0 : Nat) : Int) = 0 from rfl] at HVA
  clear HB2 HC1 HZ2 hu HNX HL HRD
  go_enter Try.func56, Try.ntmps56
  go_upto_region 2 with (go_at_call 78; (with_reducible refine HR.out.mono ?_); rintro e W3 ⟨rfl, i3, b3⟩; clear c1)
  have hlt := i3.lt
  have b4 := below_more (hb3.out W3 b3) (Nat.le_refl _) (below1 W3 (.cells #[.slice (some ⟨w.heap.size + 2, 0, none⟩) n n] 34))
  have c4 := cell_keep (hc3.out W3 b3) (below1 W3 (.cells #[.slice (some ⟨w.heap.size + 2, 0, none⟩) n n] 34))
  have i4 := i3.keep (below1 W3 (.cells #[.slice (some ⟨w.heap.size + 2, 0, none⟩) n n] 34))
  have c5 : (W3.alloc (.cells #[.slice (some ⟨w.heap.size + 2, 0, none⟩) n n] 34)).cell? ⟨W3.heap.size, 0, none⟩ = some (.slice (some ⟨w.heap.size + 2, 0, none⟩) n n) := by simp [go_sem]
  have z4 := World.size_alloc W3 (.cells #[.slice (some ⟨w.heap.size + 2, 0, none⟩) n n] 34)
  generalize W3.alloc (.cells #[.slice (some ⟨w.heap.size + 2, 0, none⟩) n n] 34) = W4 at *
  obtain ⟨p5, hp5⟩ : ∃ p5, W3.heap.size = p5 := ⟨_, rfl⟩
  rw [hp5] at hlt c5 z4 ⊢
  have hv := vs_start b4 hlt (by omega) c4 c5 i4
  have x6 := hv.x6
  have HV := Lib.hid hv
  clear hv b4 c4 c5 i4 i3 b3 hp5 hb3 hc3 HR hlt z4
  go_wp2_with (go_at_call 79; (with_reducible refine (HVA.out _ _ _ HV.out).mono ?_); rintro e W5 ⟨⟨u5, rfl⟩, hv5⟩; clear x6; (have x5 := hv5.x5); (have HV5 := Lib.hid hv5); clear hv5)
  go_ret
  exact ⟨rfl, HV5.out.r, HV5.out.b⟩
end Go.Proofs.Ytfkplnmhlpabaaa
