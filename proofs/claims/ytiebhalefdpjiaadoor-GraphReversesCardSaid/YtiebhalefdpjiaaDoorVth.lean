/- GraphReverses: the walk of fine graphs that have states. Conditions: the edges can be read. -/
import Derived.Test.YtiebhalefdpjiaaDoorVtg
import Derived.Test.YtiebhalefdpjiaaDoorVu
import Derived.Test.YtiebhalefdpjiaaDoorVr
import Derived.Test.YtiebhalefdpjiaaDoorVyk
import Derived.Test.YtiebhalefdpjiaaDoorVwh
namespace Go.Proofs.YtiebhalefdpjiaaDoor
open Go.RowKit
set_option linter.unusedSimpArgs false
set_option linter.unusedVariables false

@[go_sem ↓] theorem run_max4r {P : Program} (k : IntKind) (w : World) (ts : Array TypeId) (t : TypeId) :
    (Builtin.max_ ts t #[.int k 0, .int k 0, .int k 0, .int k 0]).run P w = .ok (.int k 0) w := by
  simp [Builtin.max_, Builtin.max2]
theorem one_rdR (W : World) (s : Int) : IntsRd (W.alloc (.cells #[.int .i64 s] 3)) (.slice (some ⟨W.heap.size, 0, none⟩) 1 1) [s] :=
  ⟨some ⟨W.heap.size, 0, none⟩, 1, rfl, fun i x hx => by
    match i, hx with
    | 0, hx => simp at hx; subst hx; exact ⟨W.heap.size, 0, rfl, by simp [go_sem]⟩⟩
theorem one_sgR {n s : Nat} (h : s < n) : SG (n : Int) [(s : Int)] := ⟨fun x hx => by rw [List.mem_singleton] at hx; subst hx; omega, List.pairwise_singleton _ _⟩
theorem rev_sl {L : Int} {n m : Nat} {es rs : List E3} (hvg : VG L (n : Int) es) (hr : revE es = rs) (hm : rs.length = m) (v : Value) (W : World) (h : EdgesRd W v es) :
    Calls Tryd.prog 29 #[grV L (n : Int) v] W fun e w' => ∃ a c, e = .returned (.tuple #[grV L (n : Int) (.slice a m c), .int .i64 0]) ∧ EdgesAt w' W.heap.size (.slice a m c) rs ∧ Below W.heap.size W w' := by
  refine (reverse_good L n es v W h hvg).mono ?_
  rintro e w' ⟨v', rfl, h1, h2⟩
  rw [hr] at h1
  obtain ⟨a, c, rfl⟩ := h1.slice
  rw [hm] at h1 ⊢
  exact ⟨a, c, rfl, h1, h2⟩
theorem step_sl {L : Int} {n x l k : Nat} {es : List E3} {A : List Int} (hvg : VG L (n : Int) es) (hx : x < n) (hl : (l : Int) < L) (hA : mems n (stepF es [(x : Int)] (l : Int)) = A) (hk : A.length = k) (v : Value) (w : World) (hrd : EdgesRd w v es) :
    Calls Tryd.prog 19 #[grV L (n : Int) v, .slice (some ⟨w.heap.size, 0, none⟩) 1 1, .int .i64 (l : Int)] (w.alloc (.cells #[.int .i64 (x : Int)] 3)) fun e w' => ∃ a c, e = .returned (.tuple #[.slice a k c, .int .i64 0]) ∧ IntsAt w' w.heap.size (.slice a k c) A ∧ Below w.heap.size w w' := by
  have b1 := below1 w (.cells #[.int .i64 (x : Int)] 3)
  refine (step_good L n es v _ [(x : Int)] (l : Int) _ (hrd.keep b1) hvg (one_rdR w (x : Int)) (one_sgR hx) ⟨by omega, hl⟩).mono ?_
  rintro e w' ⟨u, rfl, h1, h2⟩
  rw [hA] at h1
  obtain ⟨a, c, rfl⟩ := h1.slice
  rw [hk] at h1 ⊢
  exact ⟨a, c, rfl, own_low h1 (by rw [World.size_alloc]; omega), below_more b1 (Nat.le_refl _) h2⟩
theorem step_mem {es : List E3} {n x y : Nat} {lab : Int} (hy : y < n) : ((y : Int) ∈ mems n (stepF es [(x : Int)] lab)) ↔ ((x : Int), lab, (y : Int)) ∈ es := by
  rw [mems_iff]
  unfold stepF
  constructor
  · rintro ⟨i, h1, h2, h3⟩
    obtain rfl : y = i := by omega
    obtain ⟨e, he, h4⟩ := List.any_eq_true.1 h3
    simp only [Bool.and_eq_true, decide_eq_true_eq, beq_iff_eq, List.mem_singleton] at h4
    obtain ⟨⟨e1, e2⟩, e3⟩ := h4
    obtain ⟨p, q, r⟩ := e
    dsimp only at e1 e2 e3
    subst e1 e2 e3
    exact he
  · intro h
    refine ⟨y, rfl, hy, List.any_eq_true.2 ⟨_, h, ?_⟩⟩
    simp
theorem steps_back {es : List E3} {n x y : Nat} {lab : Int} (hx : x < n) (hy : y < n) : decide ((y : Int) ∈ mems n (stepF es [(x : Int)] lab)) = decide ((x : Int) ∈ mems n (stepF (revE es) [(y : Int)] lab)) := by
  rw [decide_eq_decide, step_mem hy, step_mem hx, revE_mem]
  exact Iff.rfl
/-- The graph's variable, the turned one's, the one's turned back. -/
structure GV (w : World) (L : Int) (n : Nat) (v : Value) (p : Nat) (vr : Value) (rs : List E3) (q : Nat) (vb : Value) (es : List E3) (W : World) : Prop where
  g : BoxG W w.heap.size L (n : Int) v
  r : BoxG W p L (n : Int) vr
  re : EdgesAt W w.heap.size vr rs
  k : BoxG W q L (n : Int) vb
  ke : EdgesAt W w.heap.size vb es
  b : Below w.heap.size w W
theorem GV.keep {w W W' : World} {L : Int} {n : Nat} {v : Value} {p : Nat} {vr : Value} {rs : List E3} {q : Nat} {vb : Value} {es : List E3} (h : GV w L n v p vr rs q vb es W) (hb : Below W.heap.size W W') : GV w L n v p vr rs q vb es W' :=
  ⟨h.g.keep hb, h.r.keep hb, EdgesAt.keep h.re hb, h.k.keep hb, EdgesAt.keep h.ke hb, h.b.trans (hb.mono h.b.size)⟩
set_option maxRecDepth 100000 in
set_option maxHeartbeats 6400000 in
theorem grev_small (L : Int) (n : Nat) (es : List E3) (v : Value) (s t lab : Nat) (w : World) (hs : s < 256) (ht : t < 256) (hla : lab < 256) (hn0 : 0 < n) (hrd : EdgesRd w v es) (hvg : VG L (n : Int) es) (hfine : fineB L (n : Int) es = true) :
    Calls Tryd.prog 6 #[grV L (n : Int) v, .int .u8 (s : Int), .int .u8 (t : Int), .int .u8 (lab : Int)] w fun e w' => e = .returned (.bool true) ∧ Below w.heap.size w w' := by
  have hmx : Tryd.prog.follows .mixedOrders = true := by kernel_rfl
  have hlen := hvg.len
  have hn64 : n ≤ 64 := by have := hvg.s2; omega
  have hL := hvg.l1
  have hL2 := hvg.l2
  obtain ⟨l, rfl⟩ : ∃ l : Nat, L = (l : Int) := ⟨L.toNat, by omega⟩
  obtain ⟨x, hx⟩ : ∃ x, s % n = x := ⟨_, rfl⟩
  obtain ⟨y, hy⟩ : ∃ y, t % n = y := ⟨_, rfl⟩
  obtain ⟨z, hz⟩ : ∃ z, lab % l = z := ⟨_, rfl⟩
  have hxn : x < n := by rw [← hx]; exact Nat.mod_lt _ hn0
  have hyn : y < n := by rw [← hy]; exact Nat.mod_lt _ hn0
  have hzl : z < l := by rw [← hz]; exact Nat.mod_lt _ (by omega)
  have tm1 : Int.tmod (s : Int) (n : Int) = (x : Int) := by rw [Int.tmod_eq_emod_of_nonneg (by omega), ← hx]; rfl
  have tm2 : Int.tmod (t : Int) (n : Int) = (y : Int) := by rw [Int.tmod_eq_emod_of_nonneg (by omega), ← hy]; rfl
  have tm3 : Int.tmod (lab : Int) (l : Int) = (z : Int) := by rw [Int.tmod_eq_emod_of_nonneg (by omega), ← hz]; rfl
  obtain ⟨rs, hrs⟩ : ∃ rs, revE es = rs := ⟨_, rfl⟩
  obtain ⟨m, hm⟩ : ∃ m, rs.length = m := ⟨_, rfl⟩
  have hvr : VG (l : Int) (n : Int) rs := by rw [← hrs]; exact revE_vg hvg
  have hbk : revE rs = es := by rw [← hrs]; exact revE_revE hvg
  have hsb := steps_back (es := es) (lab := (z : Int)) hxn hyn
  rw [hrs] at hsb
  obtain ⟨A, hA⟩ : ∃ A, mems n (stepF es [(x : Int)] (z : Int)) = A := ⟨_, rfl⟩
  obtain ⟨B, hB⟩ : ∃ B, mems n (stepF rs [(y : Int)] (z : Int)) = B := ⟨_, rfl⟩
  have hAl : A.length ≤ n := by rw [← hA]; exact mems_len n _
  have hBl : B.length ≤ n := by rw [← hB]; exact mems_len n _
  obtain ⟨ka, hka⟩ : ∃ k, A.length = k := ⟨_, rfl⟩
  obtain ⟨kb, hkb⟩ : ∃ k, B.length = k := ⟨_, rfl⟩
  rw [hA, hB] at hsb
  have HRD := Lib.hid hrd
  have HF := Lib.hid (fun W h => fine_any (l : Int) (n : Int) es v W h (by omega))
  have HFB := Lib.hid hfine
  have HAW := Lib.hid (fun W => awake_any W)
  obtain ⟨a, c, rfl⟩ := hrd.form
  have HR1 := Lib.hid (fun W h => rev_sl hvg hrs hm (.slice a es.length c) W h)
  have HR2 := Lib.hid (fun v' W h => rev_sl hvr hbk rfl v' W h)
  have HS1 := Lib.hid (fun W h => step_sl hvg hxn (show (z : Int) < (l : Int) by omega) hA hka (.slice a es.length c) W h)
  have HS2 := Lib.hid (fun v' W h => step_sl hvr hyn (show (z : Int) < (l : Int) by omega) hB hkb v' W h)
  have HSM := Lib.hid (fun v1 v2 W h h' => same_yes (l : Int) (n : Int) es v1 v2 W h h' (by omega))
  obtain ⟨bt, hbt⟩ : ∃ bt, decide ((y : Int) ∈ A) = bt := ⟨_, rfl⟩
  have HH1 := Lib.hid (fun v' W h => has_any A (y : Int) v' W h (by omega))
  have HH2 := Lib.hid (fun v' W h => has_any B (x : Int) v' W h (by omega))
  simp only [← hsb] at HH2
  simp only [hbt] at HH1 HH2
  have d0 : ((n : Int) == 0) = false := by rw [beq_eq_false_iff_ne]; omega
  have d1 : ((l : Int) == 0) = false := by rw [beq_eq_false_iff_ne]; omega
  have G0 := Lib.hid (BoxG.new w (l : Int) (n : Int) (.slice a es.length c) 24)
  have B0 := Lib.hid (below1 w (.cells #[.int .i64 (l : Int), .int .i64 (n : Int), .slice a es.length c] 24))
  clear hrd hvg hfine hx hy hz hrs hm hvr hbk hsb hA hB hka hkb hbt hAl hBl
  go_enter Tryd.func6, Tryd.ntmps6
  go_upto_region 4 with (first
    | (go_at_call 28; (with_reducible refine (HF.out _ (HRD.out.keep B0.out)).mono ?_); rintro e0 W1 ⟨rfl, b1⟩; (rw [HFB.out]); (have G1 := Lib.hid (G0.out.keep b1)); (have B1 := Lib.hid (below_more B0.out (Nat.le_refl _) b1)); (clear b1 G0 B0); (obtain ⟨g1, g2, g3⟩ := id G1.out))
    | (go_at_call 29; (with_reducible refine (HR1.out _ (HRD.out.keep B1.out)).mono ?_); rintro e0 W2 ⟨a2, c2, rfl, e2, b2⟩; (have bm := below1 W2 (.cells #[.int .i64 (l : Int), .int .i64 (n : Int), .slice a2 m c2] 24)); (have G2 := Lib.hid ((G1.out.keep b2).keep bm)); (have B2 := Lib.hid (below_more (below_more B1.out (Nat.le_refl _) b2) (Nat.le_refl _) bm)); (have E2 := Lib.hid (show EdgesAt _ w.heap.size (.slice a2 m c2) rs from own_low (e2.keep bm) B1.out.size)); (have Q2 := Lib.hid (BoxG.new W2 (l : Int) (n : Int) (.slice a2 m c2) 24)); (clear e2 b2 bm G1 B1 g1 g2 g3)))
  obtain ⟨p, hp⟩ : ∃ p, W2.heap.size = p := ⟨_, rfl⟩
  obtain ⟨W3, hW3⟩ : ∃ W3, W2.alloc (.cells #[.int .i64 (l : Int), .int .i64 (n : Int), .slice a2 m c2] 24) = W3 := ⟨_, rfl⟩
  rw [hW3] at G2 B2 E2
  rw [hW3, hp] at Q2 ⊢
  clear hW3 hp
  obtain ⟨q1, q2, q3⟩ := id Q2.out
  go_upto_region 5 with (go_at_call 29; (with_reducible refine (HR2.out _ _ (EdgesAt.rd E2.out)).mono ?_); rintro e0 W4 ⟨a4, c4, rfl, e4, b4⟩; (have bm := below1 W4 (.cells #[.int .i64 (l : Int), .int .i64 (n : Int), .slice a4 es.length c4] 24)); (have K4 := Lib.hid (show GV w (l : Int) n (.slice a es.length c) p (.slice a2 m c2) rs W4.heap.size (.slice a4 es.length c4) es _ from ⟨(G2.out.keep b4).keep bm, (Q2.out.keep b4).keep bm, (EdgesAt.keep E2.out b4).keep bm, BoxG.new W4 _ _ _ _, own_low (e4.keep bm) B2.out.size, below_more (below_more B2.out (Nat.le_refl _) b4) (Nat.le_refl _) bm⟩)); (clear e4 b4 bm G2 B2 E2 Q2 q1 q2 q3))
  obtain ⟨q, hq⟩ : ∃ q, W4.heap.size = q := ⟨_, rfl⟩
  obtain ⟨W5, hW5⟩ : ∃ W5, W4.alloc (.cells #[.int .i64 (l : Int), .int .i64 (n : Int), .slice a4 es.length c4] 24) = W5 := ⟨_, rfl⟩
  rw [hW5, hq] at K4
  rw [hW5, hq]
  clear hW5 hq
  obtain ⟨g1, g2, g3⟩ := id K4.out.g
  go_quiet (fail)
  rename_i nq
  obtain ⟨W6, hW6⟩ : ∃ W6, W5.drewN nq = W6 := ⟨_, rfl⟩
  have K6 := Lib.hid (show GV w (l : Int) n (.slice a es.length c) p (.slice a2 m c2) rs q (.slice a4 es.length c4) es W6 from by rw [← hW6]; exact K4.out.keep (below_drewM (Below.refl _ _) nq))
  rw [hW6]
  clear hW6 K4 g1 g2 g3
  obtain ⟨g1, g2, g3⟩ := id K6.out.g
  go_wp2_with (first
    | (go_at_call 19; (with_reducible refine (HS1.out _ (HRD.out.keep K6.out.b)).mono ?_); rintro e0 W7 ⟨a7, c7, rfl, i7, b7⟩; (have K7 := Lib.hid (K6.out.keep b7)); (have I7 := Lib.hid (show IntsAt W7 w.heap.size (.slice a7 ka c7) A from own_low i7 K6.out.b.size)); (clear i7 b7 K6 g1 g2 g3); (obtain ⟨r1, r2, r3⟩ := id K7.out.r))
    | (go_at_call 19; (with_reducible refine (HS2.out _ _ (EdgesAt.rd K7.out.re)).mono ?_); rintro e0 W8 ⟨a8, c8, rfl, i8, b8⟩; (have K8 := Lib.hid (K7.out.keep b8)); (have I8 := Lib.hid (IntsAt.keep I7.out b8)); (have J8 := Lib.hid (show IntsAt W8 w.heap.size (.slice a8 kb c8) B from own_low i8 K7.out.b.size)); (clear i8 b8 K7 I7 r1 r2 r3); (obtain ⟨g1, g2, g3⟩ := id K8.out.g); (obtain ⟨r1, r2, r3⟩ := id K8.out.k))
    | (go_at_call 15; (with_reducible refine (HSM.out _ _ _ (EdgesAt.rd K8.out.ke) (HRD.out.keep K8.out.b)).mono ?_); rintro e0 W9 ⟨rfl, b9⟩; (have B9 := Lib.hid (below_more K8.out.b (Nat.le_refl _) b9)); (have I9 := Lib.hid (IntsAt.rd (IntsAt.keep I8.out b9))); (have J9 := Lib.hid (IntsAt.rd (IntsAt.keep J8.out b9))); (clear b9 K8 I8 J8 g1 g2 g3 r1 r2 r3))
    | (go_at_call 30; (with_reducible refine (HH1.out _ _ I9.out).mono ?_); rintro e0 W10 ⟨rfl, hW10⟩; (rw [hW10]); (clear hW10))
    | (go_at_call 30; (with_reducible refine (HH2.out _ _ J9.out).mono ?_); rintro e0 W11 ⟨rfl, hW11⟩; (rw [hW11]); (clear hW11))
    | (go_at_call 10; (with_reducible refine (HAW.out _).mono ?_); rintro e0 W12 ⟨rfl, b12⟩; (have B12 := Lib.hid (below_more B9.out (Nat.le_refl _) b12)); (clear b12)))
  go_ret
  exact ⟨rfl, B12.out⟩
end Go.Proofs.YtiebhalefdpjiaaDoor
