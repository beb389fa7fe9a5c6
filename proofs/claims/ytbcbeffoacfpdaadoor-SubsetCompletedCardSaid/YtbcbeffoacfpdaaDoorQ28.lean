/- Lists of bytes among a law's arguments, opened. No condition. SubsetCompleted of a deterministic graph. Conditions: the edges and the labels can be read; the library's table reads as its text lays it. -/
import Derived.Test.YtbcbeffoacfpdaaDoorQ24
import Derived.ChangeSlices
import Derived.Test.YtbcbeffoacfpdaaDoorQ27
import Derived.Test.YtbcbeffoacfpdaaDoorQ26

namespace Go.Proofs.YtbcbeffoacfpdaaDoor
open Go.ChangeShapes Go.WideShapes Go.ChangeAt Go.RowKit Go.Deep
set_option maxRecDepth 100000
set_option linter.unusedVariables false

/-- A list of bytes that can be read. -/
def BysRd (W : World) (v : Value) (l : List Nat) : Prop := ∃ a c, v = .slice a l.length c ∧ l.length ≤ c ∧ c ≤ 9223372036854775807 ∧ (∀ x ∈ l, x < 256) ∧ ∀ (i : Nat) (x : Nat), l[i]? = some x → ∃ b off, a = some ⟨b, off, none⟩ ∧ W.cell? ⟨b, off + i, none⟩ = some (.int .u8 (x : Int))
theorem BysRd.keep {W W' : World} {v : Value} {l : List Nat} (h : BysRd W v l) (hb : Below W.heap.size W W') : BysRd W' v l := by
  obtain ⟨a, c, hv, h1, h2, h3, h4⟩ := h
  refine ⟨a, c, hv, h1, h2, h3, fun i x hx => ?_⟩
  obtain ⟨b, off, e, k⟩ := h4 i x hx
  exact ⟨b, off, e, cell_keep k hb⟩
theorem cellU8s : Tryd.prog.cellsOf 5 = 1 := by kernel_rfl
theorem bytes_open {H : Type} {enc : TypeId × Value → H} {W : World} {v : Value} {d : DataW H} {p : List MemPlace} (hv : Value.okWide Tryd.prog W .any 0 56 v)
    (h : DataW.Trod enc Tryd.prog W 0 (fun _ => true) true 56 v d p) : ∃ l, BysRd W v l := by
  obtain ⟨a0, len0, cap0, rfl⟩ := okWide_slice Tryd.underlying56 hv
  obtain ⟨fuel, hf⟩ := h
  rcases Go.ChangeShapes.open_ints Tryd.underlying56 Tryd.underlying5 cellU8s hf with ⟨hc, -⟩ | ⟨a, len, cap, zs, hc, -, hl, hm, hz, -, hall, hwf⟩
  · simp [Value.cells] at hc
    obtain ⟨rfl, rfl, rfl⟩ := hc
    exact ⟨[], none, 0, rfl, Nat.le_refl _, by omega, (fun x hx => by cases hx), (fun i x hx => by cases hx)⟩
  · simp [Value.cells] at hc
    obtain ⟨rfl, rfl, rfl⟩ := hc
    simp only [if_true] at hz
    have hcap : cap0 ≤ 9223372036854775807 := by unfold maxLen at hm; exact hm
    have hlt : ((zs.take len0).map Int.toNat).length = len0 := by rw [List.length_map, List.length_take]; omega
    have hbd : ∀ n ∈ zs, 0 ≤ n ∧ n < 256 := fun n hn => by
      have := hwf n hn
      simp [Lit.wf, IntKind.min, IntKind.max, IntKind.signed, IntKind.bits] at this
      omega
    refine ⟨(zs.take len0).map Int.toNat, some a, cap0, by rw [hlt], by rw [hlt]; omega, hcap, fun x hx => ?_, fun i x hx => ?_⟩
    · obtain ⟨n, hn, rfl⟩ := List.mem_map.1 hx
      have := hbd n (List.mem_of_mem_take hn)
      omega
    have hi : i < len0 := by
      have := (List.getElem?_eq_some_iff.1 hx).1
      rwa [hlt] at this
    rw [List.getElem?_map, List.getElem?_take_of_lt hi] at hx
    have hsp := World.cell?_spot (hall 0 (by omega))
    obtain ⟨ab, ao, sp⟩ := a
    obtain rfl : sp = none := by simpa [Addr.add] using hsp
    have h1 := hall i (by omega)
    rw [add_plain] at h1
    refine ⟨ab, ao, rfl, ?_⟩
    have hg : zs[i]? = some zs[i] := List.getElem?_eq_getElem (by omega)
    rw [hg] at hx
    injection hx with hx
    have hb2 := hbd zs[i] (List.getElem_mem _)
    rw [h1, List.getD_eq_getElem?_getD, hg, ← hx]
    show some (Value.int .u8 zs[i]) = some (.int .u8 (zs[i].toNat : Int))
    rw [Int.toNat_of_nonneg hb2.1]
theorem bytes_keep {H : Type} {enc : TypeId × Value → H} {W W' : World} {v : Value} {d : DataW H} {p : List MemPlace} (h : DataW.Trod enc Tryd.prog W 0 (fun _ => true) true 56 v d p) (hb : Below W.heap.size W W') (hlt : ∀ x ∈ p, x.block < W.heap.size) :
    DataW.Trod enc Tryd.prog W' 0 (fun b => decide (b < W.heap.size)) true 56 v d p :=
  Below.trod Tryd.laidOut (by kernel_rfl) (of_decide_eq_true (by kernel_rfl)) h hb hlt
end Go.Proofs.YtbcbeffoacfpdaaDoor

namespace Go.Proofs.YtbcbeffoacfpdaaDoor
open Go.RowKit
set_option linter.unusedSimpArgs false
set_option linter.unusedVariables false

theorem run_min8 {P : Program} (k : IntKind) (L : Int) (m : Nat) (h : (m : Int) = min L 8) (w : World) (ts : Array TypeId) (t : TypeId) :
    (Builtin.min_ ts t #[.int k L, .int k 8]).run P w = .ok (.int k (m : Int)) w := by
  by_cases h1 : 8 < L
  · have e : (m : Int) = 8 := by omega
    simp [Builtin.min_, Builtin.min2, h1, e]
  · have e : (m : Int) = L := by omega
    simp [Builtin.min_, Builtin.min2, h1, e]
/-- Where the automaton and the set of states are, behind some labels. -/
def CInv (La n : Nat) (es : List E3) (x T : Nat) : Prop := (x < n ∧ T = 2 ^ x) ∨ (x = n ∧ T = 0 ∧ es.length ≠ n * La)
theorem stN_zero (es : List E3) (l : Nat) : stN es 0 l = 0 := by
  refine Nat.eq_of_testBit_eq fun t => ?_
  rw [stN_bit, Nat.zero_testBit, Bool.and_eq_false_iff]
  right
  rw [List.any_eq_false]
  intro e he h
  simp [Nat.zero_testBit] at h
theorem cinv_step {La n : Nat} {es : List E3} (hvg : VG (La : Int) (n : Int) es) (hd : detE es = true) {x T l : Nat} (hl : l < La) (h : CInv La n es x T) : ∃ x' T' : Nat, stN es T l = T' ∧ cF n es x l = (x' : Int) ∧ CInv La n es x' T' := by
  rcases h with ⟨hx, rfl⟩ | ⟨rfl, rfl, hm⟩
  · rcases step_cases hvg hd hx hl with ⟨u, hu, h1, h2⟩ | ⟨h1, h2, h3⟩
    · exact ⟨u, 2 ^ u, h1, h2, .inl ⟨hu, rfl⟩⟩
    · exact ⟨n, 0, h1, h2, .inr ⟨rfl, rfl, h3⟩⟩
  · exact ⟨x, 0, stN_zero es l, cF_out (fun e he => (okE_iff.1 (hvg.ok e he)).2.1), .inr ⟨rfl, rfl, hm⟩⟩
set_option maxRecDepth 100000 in
set_option maxHeartbeats 12800000 in
theorem completed_good (La n : Nat) (es : List E3) (v vp : Value) (s : Nat) (pl : List Nat) (w : World) (k : Nat) (sink : List Int) (hk : (k = n ∧ sink = [] ∧ es.length = n * La) ∨ (k = n + 1 ∧ sink = [(n : Int)] ∧ es.length ≠ n * La)) (hrd : EdgesRd w v es) (hpr : BysRd w vp pl) (hT : TabD w) (hg : greatB (n : Int) es.length = false) (hvg : VG (La : Int) (n : Int) es) (hn0 : n ≠ 0) (hd : detE es = true) (hs : s < 256) :
    Calls Tryd.prog 7 #[grV (La : Int) (n : Int) v, .int .u8 (s : Int), vp] w fun e w' => e = .returned (.bool true) ∧ Below w.heap.size w w' := by
  have hmx : Tryd.prog.follows .mixedOrders = true := by kernel_rfl
  have hn64 : n ≤ 64 := by have := hvg.s2; omega
  have hL256 : La ≤ 256 := by have := hvg.l2; omega
  have hL1 : 1 ≤ La := by have := hvg.l1; omega
  have hn : es.length ≤ 1024 := hvg.len
  obtain ⟨t, ht⟩ : ∃ t, s % n = t := ⟨_, rfl⟩
  have htn : t < n := by rw [← ht]; exact Nat.mod_lt _ (by omega)
  have tm : Int.tmod (s : Int) (n : Int) = (t : Int) := by rw [Int.tmod_eq_emod_of_nonneg (by omega), ← ht]; rfl
  have HCK : Hid (∀ W, EdgesRd W v es → Calls Tryd.prog 29 #[grV (La : Int) (n : Int) v] W fun e W' => e = .returned (.int .i64 0) ∧ Below W.heap.size W W') := Lib.hid (fun W h => by
    refine (gcheck_any La n es v W h (by omega)).mono ?_
    rw [hvg.chk]
    exact fun e W' h => h)
  have HDT : Hid (∀ W, EdgesRd W v es → Calls Tryd.prog 25 #[grV (La : Int) (n : Int) v] W fun e W' => e = .returned (.tuple #[.bool true, .int .i64 0]) ∧ Below W.heap.size W W') := Lib.hid (fun W h => by
    refine (deterministic_any La n es v W h (by omega)).mono ?_
    rw [show detR (La : Int) (n : Int) es = (true, 0) by unfold detR; rw [if_pos hvg.chk, hd]]
    exact fun e W' h => h)
  have HCO : Hid (∀ W, EdgesRd W v es → Calls Tryd.prog 21 #[grV (La : Int) (n : Int) v] W fun e W' => ∃ al cl ask cs, e = .returned (.tuple #[.agg #[.int .i64 (La : Int), .slice al k cl], .slice ask sink.length cs, .int .i64 0]) ∧ RowsRd W' (.slice al k cl) ((List.range k).map fun j => (List.range La).map (cF n es j)) ∧ IntsRd W' (.slice ask sink.length cs) sink ∧ Below W.heap.size W W') := Lib.hid (fun W h => by
    refine (Complete_good La n es v W h hvg hd).mono ?_
    rintro e W' ⟨lv, sv, k2, sink2, he, h1, h2, h3, h4⟩
    have hkk : k2 = k ∧ sink2 = sink := by
      rcases hk with ⟨a1, a2, a3⟩ | ⟨a1, a2, a3⟩ <;> rcases h3 with ⟨b1, b2, b3⟩ | ⟨b1, b2, b3⟩
      · exact ⟨by omega, by rw [a2, b2]⟩
      · exact absurd a3 b3
      · exact absurd b3 a3
      · exact ⟨by omega, by rw [a2, b2]⟩
    obtain ⟨rfl, rfl⟩ := hkk
    obtain ⟨al, cl, hlv⟩ := h1.form
    obtain ⟨ask, cs, rfl⟩ := h2.form
    rw [List.length_map, List.length_range] at hlv
    subst hlv
    exact ⟨al, cl, ask, cs, he, h1, h2, h4⟩)
  have HS : Hid (∀ W u x T (l : Nat), EdgesRd W v es → IntsRd W u (memN T) → CInv La n es x T → l < La → Calls Tryd.prog 28 #[grV (La : Int) (n : Int) v, u, .int .i64 (l : Int)] W fun e W' => ∃ a c, e = .returned (.tuple #[.slice a (memN (stN es T l)).length c, .int .i64 0]) ∧ IntsRd W' (.slice a (memN (stN es T l)).length c) (memN (stN es T l)) ∧ Below W.heap.size W W') := Lib.hid (fun W u x T l h1 h2 h3 h4 => by
    have hT64 : T < 18446744073709551616 := by
      rcases h3 with ⟨hx, rfl⟩ | ⟨-, rfl, -⟩
      · exact Nat.pow_lt_pow_right (m := x) (n := 64) (by decide) (by omega)
      · decide
    have hTb : ∀ i, T.testBit i = true → i < n := fun i hi => by
      rcases h3 with ⟨hx, rfl⟩ | ⟨-, rfl, -⟩
      · rw [Nat.testBit_two_pow, decide_eq_true_iff] at hi; omega
      · rw [Nat.zero_testBit] at hi; cases hi
    refine (step_any La n l es v u (memN T) W h1 (by omega) h2 (by have : (memN T).length ≤ 64 := mems_len _ _; omega)).mono ?_
    rw [stepR_memN hvg hT64 hTb h4]
    rintro e W' ⟨u, he, h5, h6⟩
    obtain ⟨a, c, rfl⟩ := h5.slice
    exact ⟨a, c, he, h5.rd, h6⟩)
  have HCI := Lib.hid (fun x T l (hl : l < La) (h : CInv La n es x T) => cinv_step hvg hd hl h)
  have hkn : n ≤ k ∧ k ≤ n + 1 := by rcases hk with ⟨a1, -⟩ | ⟨a1, -⟩ <;> omega
  have hsl : sink.length ≤ 1 ∧ k = n + sink.length := by
    rcases hk with ⟨a1, a2, -⟩ | ⟨a1, a2, -⟩ <;> subst a2 <;> simp <;> omega
  have HXK : Hid (∀ x T, CInv La n es x T → x < k ∧ x ≤ n ∧ ((T = 2 ^ x ∧ x < n) ∨ (T = 0 ∧ x = n ∧ sink = [(n : Int)]))) := Lib.hid (fun x T h => by
    rcases h with ⟨hx, rfl⟩ | ⟨rfl, rfl, hm⟩
    · exact ⟨by omega, by omega, .inl ⟨rfl, hx⟩⟩
    · rcases hk with ⟨-, -, a3⟩ | ⟨a1, a2, -⟩
      · exact absurd a3 hm
      · exact ⟨by omega, by omega, .inr ⟨rfl, rfl, a2⟩⟩)
  have HRD := Lib.hid hrd
  have HPR := Lib.hid hpr
  have HT := Lib.hid hT
  obtain ⟨a, c, hv⟩ := hrd.form
  subst hv
  obtain ⟨a3, c3, hvp, hc3, hc3', hpb, -⟩ := id hpr
  subst hvp
  obtain ⟨m8, hm8⟩ : ∃ m : Nat, (m : Int) = min (pl.length : Int) 8 := ⟨(min (pl.length : Int) 8).toNat, by omega⟩
  have hmin := fun (W : World) (ts : Array TypeId) (t : TypeId) => run_min8 (P := Tryd.prog) .i64 (pl.length : Int) m8 hm8 W ts t
  have hm8a : m8 ≤ pl.length := by omega
  have hm8b : m8 ≤ 8 := by omega
  have hm8c : m8 ≤ c3 := by omega
  have hm8d : (m8 : Int) ≤ (c3 : Int) := by omega
  have HG := Lib.hid (fun W => great12_any (La : Int) (n : Int) a es.length c W)
  rw [hg] at HG
  have HA := Lib.hid (fun W h => awake12_any W h)
  have B0 := Lib.hid (below1 w (.cells #[.int .i64 (La : Int), .int .i64 (n : Int), .slice a es.length c] 24))
  have G0 := Lib.hid (BoxG.new w (La : Int) (n : Int) (.slice a es.length c) 24)
  obtain ⟨x1, x2, x3⟩ := id G0.out
  have d2 : ((n : Int) == 0) = false := by rw [beq_eq_false_iff_ne]; omega
  have hwk : IntKind.i64.wrap ((n : Int) + (sink.length : Int)) = (k : Int) := by rw [IntWalk.i64_in _ (by omega)]; omega
  have d3 : ((k : Int) != (k : Int)) = false := by simp
  have d4 : decide ((1 : Int) < (sink.length : Int)) = false := decide_eq_false (by omega)
  have d4' : ¬ (1 < sink.length) := by omega
  have d5 : ((La : Int) != (La : Int)) = false := by simp
  have HPB := Lib.hid hpb
  have HHM := Lib.hid hm8
  have HKK := Lib.hid hsl.2
  have hsl1 := hsl.1
  clear hrd hpr hT hg hvg hd ht hk hpb hm8 hsl
  go_enter Tryd.func7, Tryd.ntmps7
  go_upto_region 11 with (first
    | (go_at_call 9; (with_reducible refine (HG.out _).mono ?_); rintro e W1 ⟨rfl, b1⟩; (have B1 := Lib.hid (below_more B0.out (Nat.le_refl _) b1)); (have G1 := Lib.hid (G0.out.keep b1)); clear b1 x1 x2 x3; (obtain ⟨x1, x2, x3⟩ := id G1.out))
    | (go_at_call 29; (with_reducible refine (HCK.out _ (HRD.out.keep B1.out)).mono ?_); rintro e W2 ⟨rfl, b2⟩; (have B2 := Lib.hid (B1.out.trans (b2.mono B1.out.size))); (have G2 := Lib.hid (G1.out.keep b2)); clear b2 x1 x2 x3; (obtain ⟨x1, x2, x3⟩ := id G2.out))
    | (go_at_call 21; (with_reducible refine (HCO.out _ (HRD.out.keep B2.out)).mono ?_); rintro e W3 ⟨al, cl, ask, cs, rfl, hr3, hs3, b3⟩;
        (have k1 := Lib.hid (below1 W3 (.cells #[.int .i64 (La : Int), .slice al k cl] 43)));
        (have k3 := Lib.hid (below_more b3 (Nat.le_refl _) k1.out));
        (have B3 := Lib.hid (B2.out.trans (k3.out.mono B2.out.size)));
        (have G3 := Lib.hid (G2.out.keep k3.out));
        (have R3 := Lib.hid (hr3.keep k1.out));
        (have I3 := Lib.hid (hs3.keep k1.out));
        (have Y3 := Lib.hid (heap_alloc_new W3 (.cells #[.int .i64 (La : Int), .slice al k cl] 43)));
        (obtain ⟨P7, hP7⟩ : ∃ P7, W3.heap.size = P7 := ⟨_, rfl⟩);
        (have HP7 := Lib.hid hP7);
        clear x1 x2 x3 hr3 hs3 b3 hP7; (obtain ⟨x1, x2, x3⟩ := id G3.out))
    | (go_at_call 25; (with_reducible refine (HDT.out _ (HRD.out.keep B3.out)).mono ?_); rintro e W9 ⟨rfl, b4⟩; (have B4 := Lib.hid (B3.out.trans (b4.mono B3.out.size))); (have G4 := Lib.hid (G3.out.keep b4)); (have R4 := Lib.hid (R3.out.keep b4)); (have I4 := Lib.hid (I3.out.keep b4)); (have Y4 := Lib.hid ((b4.block W3.heap.size (by rw [World.size_alloc]; omega)).trans Y3.out)); (have q1 : W9.cell? ⟨W3.heap.size, 0, none⟩ = some (.int .i64 (La : Int)) := by unfold World.cell?; rw [Y4.out]; rfl); (have q2 : W9.cell? ⟨W3.heap.size, 1, none⟩ = some (.slice al k cl) := by unfold World.cell?; rw [Y4.out]; rfl); clear b4 x1 x2 x3; (obtain ⟨x1, x2, x3⟩ := id G4.out)))
  have hR0 : GB w.heap.size (La : Int) (n : Int) (.slice a es.length c) W9.drew := G4.out.keep (Below.refl _ _).drew
  have hn9 : ¬ (n = 0) := hn0
  have hn7 : ¬ ((n : Int) = 0) := by omega
  have hwz : IntKind.i64.wrap (s : Int) = (s : Int) := IntWalk.i64_in _ (by omega)
  clear x1 x2 x3 q1 q2
  refine regionT (T := T2 12 12 (GB w.heap.size (La : Int) (n : Int) (.slice a es.length c)) (GB w.heap.size (La : Int) (n : Int) (.slice a es.length c))) hmx ?_
  have hR := hR0
  refine take1 (i := 0) (v := ?_) rfl (by kernel_rfl) (by kernel_rfl) (by kernel_rfl) (by kernel_rfl) (by kernel_rfl) (by decide) (by decide) (fun _ _ _ h => h) (Or.inl ⟨by rfl, ?_⟩) hR hR ?_
  rotate_left
  · intro w hSw
    (try unfold GB BoxG at hSw)
    go_simp
    all_goals with_reducible rfl
  (try simp only [Act.put, List.setIfInBounds_toArray, List.set_cons_zero, List.set_cons_succ])
  refine take1 (i := 1) (v := ?_) rfl (by kernel_rfl) (by kernel_rfl) (by kernel_rfl) (by kernel_rfl) (by kernel_rfl) (by decide) (by decide) (fun _ _ _ h => h) (Or.inl ⟨by rfl, ?_⟩) hR hR ?_
  rotate_left
  · intro w hSw
    (try unfold GB BoxG at hSw)
    go_simp
    all_goals with_reducible rfl
  (try simp only [Act.put, List.setIfInBounds_toArray, List.set_cons_zero, List.set_cons_succ])
  refine take1 (i := 2) (v := ?_) rfl (by kernel_rfl) (by kernel_rfl) (by kernel_rfl) (by kernel_rfl) (by kernel_rfl) (by decide) (by decide) (fun _ _ _ h => h) (Or.inl ⟨by rfl, ?_⟩) hR hR ?_
  rotate_left
  · intro w hSw
    (try unfold GB BoxG at hSw)
    go_simp
    all_goals with_reducible rfl
  (try simp only [Act.put, List.setIfInBounds_toArray, List.set_cons_zero, List.set_cons_succ])
  refine take1 (i := 3) (v := ?_) rfl (by kernel_rfl) (by kernel_rfl) (by kernel_rfl) (by kernel_rfl) (by kernel_rfl) (by decide) (by decide) (fun _ _ _ h => h) (Or.inl ⟨by rfl, ?_⟩) hR hR ?_
  rotate_left
  · intro w hSw
    (try unfold GB BoxG at hSw)
    go_simp
    all_goals with_reducible rfl
  (try simp only [Act.put, List.setIfInBounds_toArray, List.set_cons_zero, List.set_cons_succ])
  refine take1 (i := 4) (v := ?_) rfl (by kernel_rfl) (by kernel_rfl) (by kernel_rfl) (by kernel_rfl) (by kernel_rfl) (by decide) (by decide) (fun _ _ _ h => h) (Or.inl ⟨by rfl, ?_⟩) hR hR ?_
  rotate_left
  · intro w hSw
    (try unfold GB BoxG at hSw)
    go_simp
    all_goals with_reducible rfl
  (try simp only [Act.put, List.setIfInBounds_toArray, List.set_cons_zero, List.set_cons_succ])
  refine take1 (i := 5) (v := ?_) rfl (by kernel_rfl) (by kernel_rfl) (by kernel_rfl) (by kernel_rfl) (by kernel_rfl) (by decide) (by decide) (fun _ _ _ h => h) (Or.inl ⟨by rfl, ?_⟩) hR hR ?_
  rotate_left
  · intro w hSw
    (try unfold GB BoxG at hSw)
    go_simp
    all_goals with_reducible rfl
  (try simp only [Act.put, List.setIfInBounds_toArray, List.set_cons_zero, List.set_cons_succ])
  refine take1 (i := 6) (v := ?_) rfl (by kernel_rfl) (by kernel_rfl) (by kernel_rfl) (by kernel_rfl) (by kernel_rfl) (by decide) (by decide) (fun _ _ _ h => h) (Or.inl ⟨by rfl, ?_⟩) hR hR ?_
  rotate_left
  · intro w hSw
    (try unfold GB BoxG at hSw)
    go_simp
    all_goals with_reducible rfl
  (try simp only [Act.put, List.setIfInBounds_toArray, List.set_cons_zero, List.set_cons_succ])
  refine take1 (i := 7) (v := ?_) rfl (by kernel_rfl) (by kernel_rfl) (by kernel_rfl) (by kernel_rfl) (by kernel_rfl) (by decide) (by decide) (fun _ _ _ h => h) (Or.inl ⟨by rfl, ?_⟩) hR hR ?_
  rotate_left
  · intro w hSw
    (try unfold GB BoxG at hSw)
    go_simp
    all_goals with_reducible rfl
  (try simp only [Act.put, List.setIfInBounds_toArray, List.set_cons_zero, List.set_cons_succ])
  refine take1 (i := 8) (v := ?_) rfl (by kernel_rfl) (by kernel_rfl) (by kernel_rfl) (by kernel_rfl) (by kernel_rfl) (by decide) (by decide) (fun _ _ _ h => h) (Or.inl ⟨by rfl, ?_⟩) hR hR ?_
  rotate_left
  · intro w hSw
    (try unfold GB BoxG at hSw)
    go_simp
    all_goals with_reducible rfl
  (try simp only [Act.put, List.setIfInBounds_toArray, List.set_cons_zero, List.set_cons_succ])
  refine take1 (i := 9) (v := ?_) rfl (by kernel_rfl) (by kernel_rfl) (by kernel_rfl) (by kernel_rfl) (by kernel_rfl) (by decide) (by decide) (fun _ _ _ h => h) (Or.inl ⟨by rfl, ?_⟩) hR hR ?_
  rotate_left
  · intro w hSw
    (try unfold GB BoxG at hSw)
    go_simp
    all_goals with_reducible rfl
  (try simp only [Act.put, List.setIfInBounds_toArray, List.set_cons_zero, List.set_cons_succ])
  refine take1 (i := 11) (v := ?_) rfl (by kernel_rfl) (by kernel_rfl) (by kernel_rfl) (by kernel_rfl) (by kernel_rfl) (by decide) (by decide) (fun _ _ _ h => h) (Or.inl ⟨by rfl, ?_⟩) hR hR ?_
  rotate_left
  · intro w hSw
    (try unfold GB BoxG at hSw)
    go_simp
    all_goals with_reducible rfl
  (try simp only [Act.put, List.setIfInBounds_toArray, List.set_cons_zero, List.set_cons_succ])
  refine stepT (i := 10) (by kernel_rfl) rfl (fun K hK => ?_)
  go_simp
  have hR5 : GB w.heap.size (La : Int) (n : Int) (.slice a es.length c) (W9.alloc (.cells #[.int .i64 (t : Int)] 3)).drew := (show GB w.heap.size (La : Int) (n : Int) (.slice a es.length c) W9 from hR0).keep (below1 W9 (.cells #[.int .i64 (t : Int)] 3)).drew
  refine hK.out _ _ ⟨fun _ => hR5, fun _ => hR5⟩ ?_
  clear hK K hR
  have hR := hR5
  (try simp only [Act.put, List.setIfInBounds_toArray, List.set_cons_zero, List.set_cons_succ])
  refine stepT (i := 12) (by kernel_rfl) rfl (fun K hK => ?_)
  go_simp
  refine hK.out _ _ ⟨fun h => absurd h (by decide), fun h => absurd h (by decide)⟩ ?_
  clear hK K
  (try simp only [Act.put, List.setIfInBounds_toArray, List.set_cons_zero, List.set_cons_succ])
  refine doneT (by kernel_rfl) ?_ _
  have hb1 := (below1 W9 (.cells #[.int .i64 (t : Int)] 3)).drew
  have AX := Lib.hid (B4.out.trans (hb1.mono B4.out.size))
  have G5 := Lib.hid (G4.out.keep hb1)
  have R5 := Lib.hid (R4.out.keep hb1)
  have I5 := Lib.hid (I4.out.keep hb1)
  have Y5 := Lib.hid ((hb1.block W3.heap.size (Array.getElem?_eq_some_iff.1 Y4.out).1).trans Y4.out)
  have T5 := Lib.hid (show IntsRd (W9.alloc (.cells #[.int .i64 (t : Int)] 3)).drew (.slice (some ⟨W9.heap.size, 0, none⟩) 1 1) (memN (2 ^ t)) by rw [memN_one (by omega)]; exact (one_lit W9 (t : Int)).keep (Below.refl _ _).drew)
  clear hR5 hR0 hb1 HCO HDT HCK HG G4 R4 I4 Y4 B4 G3 R3 I3 Y3 B3 k3 k1 G2 B2 G1 B1 G0 B0 d2 HP7 d3 d4 d4' hwk hwz tm
  generalize (W9.alloc (.cells #[.int .i64 (t : Int)] 3)).drew = X at *
  go_upto_region 13 with fail
  clear hmin
  have hl1 := Lib.hid (show (memN (2 ^ t)).length = 1 by rw [memN_one (by omega)]; rfl)
  have T6 := Lib.hid (show IntsRd X (.slice (some ⟨W9.heap.size, 0, none⟩) (memN (2 ^ t)).length 1) (memN (2 ^ t)) by rw [hl1.out]; exact T5.out)
  go_loopg [12, 13, 102] m8 (fun q s12 s13 s102 wx => ∃ (i x T : Nat) (a8 : Option Addr) (c8 : Nat), i + q = m8 ∧ s102 = .int .i64 (i : Int) ∧ s12 = .int .i64 (x : Int) ∧ s13 = .slice a8 (memN T).length c8 ∧ Hid (CInv La n es x T) ∧ Hid (IntsRd wx (.slice a8 (memN T).length c8) (memN T)) ∧ Hid (Below X.heap.size X wx))
  case atStart => exact ⟨0, t, 2 ^ t, some ⟨W9.heap.size, 0, none⟩, 1, by omega, rfl, rfl, by rw [hl1.out], Lib.hid (.inl ⟨htn, rfl⟩), T6, Lib.hid (Below.refl _ _)⟩
  case round =>
    clear T5 T6 hl1
    obtain ⟨i, x, T, a8, c8, hin, rfl, rfl, rfl, HI, HSV, HBX⟩ := hrel
    have BW := Lib.hid (AX.out.trans (HBX.out.mono AX.out.size))
    rcases gk with _ | q
    · obtain rfl : i = m8 := by omega
      have j1 : ¬ ((i : Int) < (i : Int)) := by omega
      go_wp2_with (go_at_call 10; (with_reducible refine (HA.out _ (HT.out.keep BW.out)).mono ?_); rintro e W11 ⟨rfl, b11⟩; (have B11 := Lib.hid (BW.out.trans (b11.mono BW.out.size))))
      go_ret
      exact ⟨rfl, B11.out⟩
    · obtain ⟨y, hy⟩ : ∃ y, pl[i]? = some y := ⟨_, List.getElem?_eq_getElem (by omega)⟩
      have hy256 := HPB.out y (List.mem_of_getElem? hy)
      obtain ⟨a', c', hv', -, -, -, hcell⟩ := HPR.out.keep BW.out
      injection hv' with e1 e2 e3
      subst e1
      obtain ⟨b3, o3, e4, cb⟩ := hcell i y hy
      subst e4
      obtain ⟨lab, hlab⟩ : ∃ lab, y % La = lab := ⟨_, rfl⟩
      have hlL : lab < La := by rw [← hlab]; exact Nat.mod_lt _ (by omega)
      have tm2 : Int.tmod (y : Int) (La : Int) = (lab : Int) := by rw [Int.tmod_eq_emod_of_nonneg (by omega), ← hlab]; rfl
      have hwy : IntKind.i64.wrap (y : Int) = (y : Int) := IntWalk.i64_in _ (by omega)
      have hL9 : ¬ (La = 0) := by omega
      have hL7 : ¬ ((La : Int) = 0) := by omega
      obtain ⟨xk, xn, -⟩ := HXK.out x T HI.out
      obtain ⟨x', T', f1, f2, f3⟩ := HCI.out x T lab hlL HI.out
      have HF3 := Lib.hid f3
      have HF2 := Lib.hid f2
      have HSt := Lib.hid (HS.out wr _ x T lab (HRD.out.keep BW.out) HSV.out HI.out hlL)
      rw [f1] at HSt
      have G6 := Lib.hid (G5.out.keep HBX.out)
      obtain ⟨x1, x2, x3⟩ := id G6.out
      have j1 : (i : Int) < (m8 : Int) := by omega
      have j1' : i < m8 := by omega
      have j2 : (x : Int) < (k : Int) := by omega
      have j2a : decide ((x : Int) < 0) = false := decide_eq_false (by omega)
      have j2b : decide ((k : Int) ≤ (x : Int)) = false := decide_eq_false (by omega)
      have j3 : (lab : Int) < (La : Int) := by omega
      have j4 : ((La : Int) != (La : Int)) = false := by simp
      clear hy hcell e2 e3 hlab f1 f2 f3
      go_upto_region 17 with (go_at_call 28; (with_reducible refine HSt.out.mono ?_); rintro e W10 ⟨a9, c9, rfl, i9, b9⟩; (have B10 := Lib.hid (HBX.out.trans (b9.mono HBX.out.size))); (have I9 := Lib.hid i9); clear b9 i9 x1 x2 x3 cb)
      have BW10 := Lib.hid (AX.out.trans (B10.out.mono AX.out.size))
      have G7 := Lib.hid (G5.out.keep B10.out)
      obtain ⟨x1, x2, x3⟩ := id G7.out
      have hy7 := (B10.out.block W3.heap.size (Array.getElem?_eq_some_iff.1 Y5.out).1).trans Y5.out
      have q1 : W10.cell? ⟨W3.heap.size, 0, none⟩ = some (.int .i64 (La : Int)) := by unfold World.cell?; rw [hy7]; rfl
      have q2 : W10.cell? ⟨W3.heap.size, 1, none⟩ = some (.slice al k cl) := by unfold World.cell?; rw [hy7]; rfl
      obtain ⟨b7, o7, k7, u7, hv7, p7, r7⟩ := (R5.out.keep B10.out).at (i := x) (r := (List.range La).map (cF n es x)) (by rw [List.getElem?_map, List.getElem?_range xk]; rfl)
      injection hv7 with e1 e2 e3
      subst e1
      obtain ⟨a7, c7, hu7⟩ := r7.form
      rw [List.length_map, List.length_range] at hu7
      subst hu7
      obtain ⟨b8, o8, k8, hv8, p8⟩ := r7.at (i := lab) (x := (x' : Int)) (by rw [List.getElem?_map, List.getElem?_range hlL, Option.map_some, HF2.out])
      injection hv8 with e4 e5 e6
      subst e4
      obtain ⟨z1, z2, z3⟩ := HXK.out x' T' HF3.out
      clear hy7 e2 e3 e5 e6 r7
      rcases z3 with ⟨rfl, hx'⟩ | ⟨rfl, hxn, hsk⟩
      · have hone := memN_one (t := x') (by omega)
        have hlen : (memN (2 ^ x')).length = 1 := by rw [hone]; rfl
        have HLN := Lib.hid hlen
        have i10 := I9.out
        rw [hlen, hone] at i10
        obtain ⟨b9', o9, k9, hv9, p9⟩ := i10.at (i := 0) (x := (x' : Int)) rfl
        injection hv9 with e7 e8 e9
        subst e7
        rw [Nat.add_zero] at p9
        rw [hlen]
        have d6 : ((x' : Int) != (x' : Int)) = false := by simp
        have HIN := Lib.hid (show IntsRd W10 (.slice (some ⟨b9', o9, none⟩) (memN (2 ^ x')).length c9) (memN (2 ^ x')) from I9.out)
        clear hone hlen i10 e8 e9 hx'
        go_quiet (fail)
        go_wp2_with fail
        go_roundg q
        case measure => omega
        case rel => exact ⟨i + 1, x', 2 ^ x', some ⟨b9', o9, none⟩, c9, by omega, by go_num, rfl, by rw [HLN.out], HF3, Lib.hid (HIN.out.keep (below_drewM (Below.refl _ _) _)), Lib.hid (below_drewM B10.out _)⟩
      · have hlen : (memN 0).length = 0 := by decide
        have HLN := Lib.hid hlen
        obtain ⟨bs, os, ks, hvs, ps⟩ := (I5.out.keep B10.out).at (i := 0) (x := (n : Int)) (by rw [hsk]; rfl)
        injection hvs with e7 e8 e9
        subst e7
        rw [Nat.add_zero] at ps
        rw [hlen]
        have hsl : sink.length = 1 := by rw [hsk]; rfl
        have d6 : ((x' : Int) != (n : Int)) = false := by rw [hxn]; simp
        have d7 : ((sink.length : Int) == 0) = false := by rw [hsl]; rfl
        have d8 : (0 : Int) < (sink.length : Int) := by omega
        have d9 : 0 < sink.length := by omega
        have HIN := Lib.hid (show IntsRd W10 (.slice a9 (memN 0).length c9) (memN 0) from I9.out)
        clear hlen e8 e9 hxn hsk hsl
        go_quiet (fail)
        go_wp2_with fail
        go_roundg q
        case measure => omega
        case rel => exact ⟨i + 1, x', 0, a9, c9, by omega, by go_num, rfl, by rw [HLN.out], HF3, Lib.hid (HIN.out.keep (below_drewM (Below.refl _ _) _)), Lib.hid (below_drewM B10.out _)⟩
end Go.Proofs.YtbcbeffoacfpdaaDoor
