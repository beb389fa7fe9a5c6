/- SubsetAgain returns true. Conditions: the edges can be read; the library's table reads as its text lays it. What slices.Repeat of one int returns. Condition: the int can be read. The automaton that subset.Complete fills: its rows, between the rounds of its loops. Plain facts on what it holds. -/
import Derived.Test.YtbcbeffoacfpdaaDoorQ25
import Derived.Test.YtbcbeffoacfpdaaDoorQ08
import Derived.Test.YtbcbeffoacfpdaaDoorQ23
import Derived.Test.YtbcbeffoacfpdaaDoorQ21
import Derived.Test.YtbcbeffoacfpdaaDoorQ09

namespace Go.Proofs.YtbcbeffoacfpdaaDoor
open Go.RowKit
set_option linter.unusedSimpArgs false
set_option linter.unusedVariables false

/-- The cells that the last statement reads. -/
def GB (p : Nat) (L n : Int) (v : Value) (W : World) : Prop := BoxG W p L n v
theorem GB.keep {p : Nat} {L n : Int} {v : Value} {W W' : World} (h : GB p L n v W) (k : Below W.heap.size W W') : GB p L n v W' := BoxG.keep h k
theorem one_lit (W : World) (z : Int) : IntsRd (W.alloc (.cells #[.int .i64 z] 3)) (.slice (some ⟨W.heap.size, 0, none⟩) 1 1) [z] := ints_lit1 W z _
theorem one_lit2 (W : World) (o : Obj) (z : Int) : IntsRd ((W.alloc o).alloc (.cells #[.int .i64 z] 3)) (.slice (some ⟨W.heap.size + 1, 0, none⟩) 1 1) [z] := by
  have h := one_lit (W.alloc o) z
  rw [World.size_alloc] at h
  exact h
set_option maxRecDepth 100000 in
set_option maxHeartbeats 12800000 in
theorem again_good (La n : Nat) (es : List E3) (v : Value) (s : Nat) (b : Bs) (w : World) (hrd : EdgesRd w v es) (hn : es.length ≤ 9223372036854775807) (hT : TabD w) (hg : greatB (n : Int) es.length = false) (hvg : VG (La : Int) (n : Int) es) (hn0 : n ≠ 0) (hbd : buildR (La : Int) (n : Int) es = (0, b))
    (hres : ResN es La (fullN n) b) (hb : builtN es La (fullN n) = some b) (hs : s < 256) :
    Calls Tryd.prog 8 #[grV (La : Int) (n : Int) v, .int .u8 (s : Int)] w fun e w' => e = .returned (.bool true) ∧ Below w.heap.size w w' := by
  have hmx : Tryd.prog.follows .mixedOrders = true := by kernel_rfl
  have hn64 : n ≤ 64 := by have := hvg.s2; omega
  have hL256 : La ≤ 256 := by have := hvg.l2; omega
  have hL1 : 1 ≤ La := by have := hvg.l1; omega
  have hag := from_again hres hb hL1 hL256
  obtain ⟨m, hm⟩ : ∃ m, b.1.length = m := ⟨_, rfl⟩
  have hm64 : m ≤ 64 := by rw [← hm]; exact hres.n
  rw [hm] at hag
  have hm2 : b.2.length ≤ 1024 := hres.m
  obtain ⟨t, ht⟩ : ∃ t, s % n = t := ⟨_, rfl⟩
  have htn : t < n := by rw [← ht]; exact Nat.mod_lt _ (by omega)
  have tm : Int.tmod (s : Int) (n : Int) = (t : Int) := by rw [Int.tmod_eq_emod_of_nonneg (by omega), ← ht]; rfl
  have HCK := Lib.hid (fun W h => gcheck_any La n es v W h hn)
  have HDT := Lib.hid (fun W h => deterministic_any La n es v W h hn)
  have hdr : detR (La : Int) (n : Int) es = (detE es, 0) := by unfold detR; rw [if_pos hvg.chk]
  have HB : Hid (∀ W, EdgesRd W v es → TabD W → Calls Tryd.prog 11 #[grV (La : Int) (n : Int) v] W fun e W' => ∃ ah ch al, e = .returned (.tuple #[grV (La : Int) (m : Int) (.slice ah b.2.length ch), .slice al m m, .int .i64 0]) ∧ EdgesRd W' (.slice ah b.2.length ch) b.2 ∧ Below W.heap.size W W') := Lib.hid (fun W h1 h3 => by
    refine (Build_any La n es v W h1 hn h3).mono ?_
    rw [hbd]
    rintro e W' ⟨hv, lv, he, h4, h5, h6⟩
    obtain ⟨ah, ch, rfl⟩ := h4.slice
    obtain ⟨al, rfl⟩ := h5.form
    rw [hm] at he
    exact ⟨ah, ch, al, he, h4.rd, h6⟩)
  have HF : Hid (∀ W hv vs, EdgesRd W hv b.2 → IntsRd W vs [0] → TabD W → Calls Tryd.prog 13 #[grV (La : Int) (m : Int) hv, vs] W fun e W' => ∃ ah ch al, e = .returned (.tuple #[grV (La : Int) (m : Int) (.slice ah b.2.length ch), .slice al m m, .int .i64 0]) ∧ EdgesRd W' (.slice ah b.2.length ch) b.2 ∧ RowsRd W' (.slice al m m) ((sg1 m).map memN) ∧ Below W.heap.size W W') := Lib.hid (fun W hv vs h1 h2 h3 => by
    refine (From_any La m b.2 hv vs [0] W h1 (by omega) h2 (by decide) h3).mono ?_
    rw [hag]
    rintro e W' ⟨hv, lv, he, h4, h5, h6⟩
    obtain ⟨ah, ch, rfl⟩ := h4.slice
    have h7 := h5.rd
    obtain ⟨al, rfl⟩ := h5.form
    dsimp only at he h7
    rw [sg1_len] at he h7
    exact ⟨ah, ch, al, he, h4.rd, h7, h6⟩)
  have HFD : Hid (detE es = true → ∀ W vs, EdgesRd W v es → IntsRd W vs [(t : Int)] → TabD W → Calls Tryd.prog 13 #[grV (La : Int) (n : Int) v, vs] W fun e W' => ∃ (rows : List (List Int)) (hv lv : Value), e = .returned (.tuple #[hv, lv, .int .i64 0]) ∧ (RowsRd W' lv rows ∧ rows.length ≤ 100000 ∧ ∀ r ∈ rows, r.length = 1) ∧ Below W.heap.size W W') := Lib.hid (fun hd W vs h1 h2 h3 => by
    obtain ⟨b', hfb, h1b⟩ := from_det hvg hd htn
    have hvb : ∃ L S, ResN es L S b' := by
      obtain ⟨L, n2, b2, e1, e2, e3, e4, e5, e6, e7⟩ := fromR_ok (La := (La : Int)) (S := (n : Int)) (es := es) (set := [(t : Int)]) (by rw [hfb])
      have h64 : ∀ x ∈ [(t : Int)], 0 ≤ x ∧ x < 64 := fun x hx => by rw [List.mem_singleton] at hx; omega
      rw [hfb] at e7
      dsimp only at e7
      subst e7
      exact ⟨L, _, built_res (ofN_ne h64 (by simp)) (ofN_lt64 h64) e6⟩
    obtain ⟨L, S, hr⟩ := hvb
    refine (From_any La n es v vs [(t : Int)] W h1 hn h2 (by simp) h3).mono ?_
    rw [hfb]
    rintro e W' ⟨hv, lv, he, h4, h5, h6⟩
    refine ⟨b'.1.map memN, _, lv, he, ⟨h5.rd, by rw [List.length_map]; have := hr.n; omega, fun r hrr => ?_⟩, h6⟩
    obtain ⟨T, hT, rfl⟩ := List.mem_map.1 hrr
    obtain ⟨u, hu, rfl⟩ := h1b T hT
    rw [memN_one (by omega)]; rfl)
  have HSM : Hid (∀ W ah ch ah' ch', EdgesRd W (.slice ah b.2.length ch) b.2 → EdgesRd W (.slice ah' b.2.length ch') b.2 → Calls Tryd.prog 32 #[grV (La : Int) (m : Int) (.slice ah b.2.length ch), grV (La : Int) (m : Int) (.slice ah' b.2.length ch')] W fun e W' => e = .returned (.bool true) ∧ Below W.heap.size W W') := Lib.hid (fun W ah ch ah' ch' h1 h2 => by
    refine (same_any La m La m b.2 b.2 _ _ W h1 h2 (by omega) (by omega)).mono ?_
    rw [show sameG (La : Int) (m : Int) b.2 (La : Int) (m : Int) b.2 = true from decide_eq_true ⟨rfl, rfl, rfl⟩]
    exact fun e W' h => h)
  have HQ : Hid (∀ W u u' (i : Nat), IntsRd W u [(i : Int)] → IntsRd W u' [(i : Int)] → Calls Tryd.prog 27 #[u, u'] W fun e W' => e = .returned (.bool true) ∧ Below W.heap.size W W') := Lib.hid (fun W u u' i h1 h2 => by
    refine (intsEq_any h1 h2 (by simp) (by simp)).mono ?_
    rw [decide_eq_true rfl]
    exact fun e W' h => h)
  have HCA := Lib.hid (fun rows lv W (h : RowsRd W lv rows ∧ rows.length ≤ 100000 ∧ ∀ r ∈ rows, r.length = 1) => contA_any rows lv W h.1 h.2.1 h.2.2)
  have HRW : Hid (∀ i, i < m → ((sg1 m).map memN)[i]? = some [(i : Int)]) := Lib.hid (fun i hi => by rw [List.getElem?_map, sg1_at hi, Option.map_some, memN_one (by omega)])
  have HRD := Lib.hid hrd
  have HT := Lib.hid hT
  obtain ⟨a, c, hv⟩ := hrd.form
  subst hv
  have HG := Lib.hid (fun W => great12_any (La : Int) (n : Int) a es.length c W)
  rw [hg] at HG
  rw [hvg.chk] at HCK
  rw [hdr] at HDT
  have HA := Lib.hid (fun W h => awake12_any W h)
  have B0 := Lib.hid (below1 w (.cells #[.int .i64 (La : Int), .int .i64 (n : Int), .slice a es.length c] 24))
  have G0 := Lib.hid (BoxG.new w (La : Int) (n : Int) (.slice a es.length c) 24)
  obtain ⟨x1, x2, x3⟩ := id G0.out
  have d2 : ((n : Int) == 0) = false := by rw [beq_eq_false_iff_ne]; omega
  obtain ⟨dt, hdt⟩ : ∃ d, detE es = d := ⟨_, rfl⟩
  rw [hdt] at HDT HFD
  clear hrd hT hg hvg hbd hres hb hag hdr ht hdt hn0
  go_enter Tryd.func8, Tryd.ntmps8
  go_wp2_with (first
    | (go_at_call 9; (with_reducible refine (HG.out _).mono ?_); rintro e W1 ⟨rfl, b1⟩; (have B1 := Lib.hid (below_more B0.out (Nat.le_refl _) b1)); (have G1 := Lib.hid (G0.out.keep b1)); clear b1 x1 x2 x3; (obtain ⟨x1, x2, x3⟩ := id G1.out))
    | (go_at_call 29; (with_reducible refine (HCK.out _ (HRD.out.keep B1.out)).mono ?_); rintro e W2 ⟨rfl, b2⟩; (have B2 := Lib.hid (B1.out.trans (b2.mono B1.out.size))); (have G2 := Lib.hid (G1.out.keep b2)); clear b2 x1 x2 x3; (obtain ⟨x1, x2, x3⟩ := id G2.out))
    | (go_at_call 11; (with_reducible refine (HB.out _ (HRD.out.keep B2.out) (HT.out.keep B2.out)).mono ?_); rintro e W3 ⟨ah, ch, al, rfl, he3, b3⟩;
        (have k3 := Lib.hid (below_more b3 (Nat.le_refl _) (below1 W3 (.cells #[.int .i64 (La : Int), .int .i64 (m : Int), .slice ah b.2.length ch] 24))));
        (have k4 := Lib.hid (below1 (W3.alloc (.cells #[.int .i64 (La : Int), .int .i64 (m : Int), .slice ah b.2.length ch] 24)) (.cells #[.int .i64 0] 3)));
        (have B3 := Lib.hid (B2.out.trans (k3.out.mono B2.out.size)));
        (have G3 := Lib.hid (G2.out.keep k3.out));
        (have E3' := Lib.hid (he3.keep (below1 W3 (.cells #[.int .i64 (La : Int), .int .i64 (m : Int), .slice ah b.2.length ch] 24))));
        (have Y3 := Lib.hid (BoxG.new W3 (La : Int) (m : Int) (.slice ah b.2.length ch) 24));
        (have I3 := Lib.hid (show IntsRd ((W3.alloc (.cells #[.int .i64 (La : Int), .int .i64 (m : Int), .slice ah b.2.length ch] 24)).alloc (.cells #[.int .i64 0] 3)) (.slice (some ⟨W3.heap.size + 1, 0, none⟩) 1 1) [0] from one_lit2 W3 _ 0));
        clear x1 x2 x3 he3 b3)
    | (go_at_call 13; (with_reducible refine (HF.out _ _ _ (E3'.out.keep k4.out) I3.out (HT.out.keep (B3.out.trans (k4.out.mono B3.out.size)))).mono ?_); rintro e W4 ⟨ag, cg, ak, rfl, he4, hr4, b4⟩;
        (have k5 := Lib.hid (k4.out.trans (b4.mono k4.out.size)));
        (have k6 := Lib.hid (below1 W4 (.cells #[.int .i64 (La : Int), .int .i64 (m : Int), .slice ag b.2.length cg] 24)));
        (have k7 := Lib.hid (below_more k5.out (Nat.le_refl _) k6.out));
        (have B4 := Lib.hid (B3.out.trans (k7.out.mono B3.out.size)));
        (have G4 := Lib.hid (G3.out.keep k7.out));
        (have E4 := Lib.hid (E3'.out.keep k7.out));
        (have Y4 := Lib.hid (Y3.out.keep k7.out));
        (have F4 := Lib.hid (he4.keep k6.out));
        (have R4 := Lib.hid (hr4.keep k6.out));
        (obtain ⟨y1, y2, y3⟩ := id Y4.out);
        clear he4 hr4 b4)
    | (go_at_call 32; (with_reducible refine (HSM.out _ _ _ _ _ F4.out E4.out).mono ?_); rintro e W5 ⟨rfl, b5⟩; (have B5 := Lib.hid (B4.out.trans (b5.mono B4.out.size))); (have G5 := Lib.hid (G4.out.keep b5)); (have R5 := Lib.hid (R4.out.keep b5)); clear b5 y1 y2 y3))
  clear HB HF HSM HG HCK G4 E4 Y4 F4 R4 k7 k6 k5 k4 k3 B4 E3' Y3 I3 G3 B3 G2 B2 G1 B1 B0 G0 d2
  try dsimp only at HDT
  go_loopg [53] m (fun q s53 wx => ∃ i : Nat, i + q = m ∧ s53 = .int .i64 (i : Int) ∧ Hid (Below W5.heap.size W5 wx))
  case atStart => exact ⟨0, by omega, rfl, Lib.hid (Below.refl _ _)⟩
  case round =>
    obtain ⟨i, hin, rfl, B6⟩ := hrel
    have BW6 := Lib.hid (B5.out.trans (B6.out.mono B5.out.size))
    rcases gk with _ | q
    · obtain rfl : i = m := by omega
      have j3 : ¬ ((i : Int) < (i : Int)) := by omega
      have G6 := Lib.hid (G5.out.keep B6.out)
      obtain ⟨x1, x2, x3⟩ := id G6.out
      cases dt
      · go_wp2_with (first
          | (go_at_call 25; (with_reducible refine (HDT.out _ (HRD.out.keep BW6.out)).mono ?_); rintro e W7 ⟨rfl, b7⟩; (have B7 := Lib.hid (BW6.out.trans (b7.mono BW6.out.size))); clear b7)
          | (go_at_call 10; (refine (HA.out _ (HT.out.keep B7.out)).mono ?_); rintro e W8 ⟨rfl, b8⟩; (have B8 := Lib.hid (B7.out.trans (b8.mono B7.out.size)))))
        go_ret
        exact ⟨rfl, B8.out⟩
      · go_upto_region 18 with (go_at_call 25; (with_reducible refine (HDT.out _ (HRD.out.keep BW6.out)).mono ?_); rintro e W7 ⟨rfl, b7⟩; (have B7 := Lib.hid (BW6.out.trans (b7.mono BW6.out.size))); (have G7 := Lib.hid (G6.out.keep b7)); clear b7)
        clear x1 x2 x3
        have hR0 : GB w.heap.size (La : Int) (n : Int) (.slice a es.length c) W7.drew := G7.out.keep (Below.refl _ _).drew
        have BA := Lib.hid (show Below w.heap.size w (W7.alloc (.cells #[.int .i64 (t : Int)] 3)).drew from (B7.out.alloc B7.out.size _).drew)
        have hFT := Lib.hid (HFD.out (by trivial) (W7.alloc (.cells #[.int .i64 (t : Int)] 3)).drew _ (HRD.out.keep BA.out) ((one_lit W7 (t : Int)).keep (Below.refl _ _).drew) (HT.out.keep BA.out))
        have hn9 : ¬ (n = 0) := by omega
        have hn7 : ¬ ((n : Int) = 0) := by omega
        have hwz : IntKind.i64.wrap (s : Int) = (s : Int) := IntWalk.i64_in _ (by omega)
        have hn8 : ((n : Int) == 0) = false := by rw [beq_eq_false_iff_ne]; exact hn7
        refine regionT (T := T2 13 13 (GB w.heap.size (La : Int) (n : Int) (.slice a es.length c)) (GB w.heap.size (La : Int) (n : Int) (.slice a es.length c))) hmx ?_
        have hR := hR0
        refine take1 (i := 0) (v := ?_) rfl (by kernel_rfl) (by kernel_rfl) (by kernel_rfl) (by kernel_rfl) (by kernel_rfl) (by decide) (by decide) (fun _ _ _ h => h) (Or.inl ⟨by rfl, ?_⟩) hR hR ?_
        rotate_left
        · intro w hSw
          (try unfold GB BoxG at hSw)
          go_simp
          all_goals with_reducible rfl
        (try simp only [Act.put, List.setIfInBounds_toArray, List.set_cons_zero, List.set_cons_succ])
        refine take1 (i := 1) (v := ?_) rfl (by kernel_rfl) (by kernel_rfl) (by kernel_rfl) (by kernel_rfl) (by kernel_rfl) (by decide) (by decide) (fun _ _ _ h => h) (Or.inl ⟨by rfl, ?_⟩) hR hR ?_
        rotate_left
        · intro w hSw
          (try unfold GB BoxG at hSw)
          go_simp
          all_goals with_reducible rfl
        (try simp only [Act.put, List.setIfInBounds_toArray, List.set_cons_zero, List.set_cons_succ])
        refine take1 (i := 2) (v := ?_) rfl (by kernel_rfl) (by kernel_rfl) (by kernel_rfl) (by kernel_rfl) (by kernel_rfl) (by decide) (by decide) (fun _ _ _ h => h) (Or.inl ⟨by rfl, ?_⟩) hR hR ?_
        rotate_left
        · intro w hSw
          (try unfold GB BoxG at hSw)
          go_simp
          all_goals with_reducible rfl
        (try simp only [Act.put, List.setIfInBounds_toArray, List.set_cons_zero, List.set_cons_succ])
        refine take1 (i := 3) (v := ?_) rfl (by kernel_rfl) (by kernel_rfl) (by kernel_rfl) (by kernel_rfl) (by kernel_rfl) (by decide) (by decide) (fun _ _ _ h => h) (Or.inl ⟨by rfl, ?_⟩) hR hR ?_
        rotate_left
        · intro w hSw
          (try unfold GB BoxG at hSw)
          go_simp
          all_goals with_reducible rfl
        (try simp only [Act.put, List.setIfInBounds_toArray, List.set_cons_zero, List.set_cons_succ])
        refine take1 (i := 4) (v := ?_) rfl (by kernel_rfl) (by kernel_rfl) (by kernel_rfl) (by kernel_rfl) (by kernel_rfl) (by decide) (by decide) (fun _ _ _ h => h) (Or.inl ⟨by rfl, ?_⟩) hR hR ?_
        rotate_left
        · intro w hSw
          (try unfold GB BoxG at hSw)
          go_simp
          all_goals with_reducible rfl
        (try simp only [Act.put, List.setIfInBounds_toArray, List.set_cons_zero, List.set_cons_succ])
        refine take1 (i := 5) (v := ?_) rfl (by kernel_rfl) (by kernel_rfl) (by kernel_rfl) (by kernel_rfl) (by kernel_rfl) (by decide) (by decide) (fun _ _ _ h => h) (Or.inl ⟨by rfl, ?_⟩) hR hR ?_
        rotate_left
        · intro w hSw
          (try unfold GB BoxG at hSw)
          go_simp
          all_goals with_reducible rfl
        (try simp only [Act.put, List.setIfInBounds_toArray, List.set_cons_zero, List.set_cons_succ])
        refine stepT (i := 6) (by kernel_rfl) rfl (fun K hK => ?_)
        go_simp
        have hR5 : GB w.heap.size (La : Int) (n : Int) (.slice a es.length c) (W7.alloc (.cells #[.int .i64 (t : Int)] 3)).drew := G7.out.keep (below1 W7 (.cells #[.int .i64 (t : Int)] 3)).drew
        refine hK.out _ _ ⟨fun _ => hR5, fun _ => hR5⟩ ?_
        clear hK K hR
        have hR := hR5
        (try simp only [Act.put, List.setIfInBounds_toArray, List.set_cons_zero, List.set_cons_succ])
        refine stepT (i := 7) (by kernel_rfl) rfl (fun K hK => ?_)
        go_simp
        go_at_call 13
        (with_reducible refine hFT.out.mono ?_)
        rintro e0 W9 ⟨rows9, hv9, lv9, rfl, r9, b9⟩
        have hR2 : GB w.heap.size (La : Int) (n : Int) (.slice a es.length c) W9 := hR5.keep b9
        refine hK.out _ _ ⟨fun _ => hR2, fun _ => hR2⟩ ?_
        clear hK K hR
        have hR := hR2
        (try simp only [Act.put, List.setIfInBounds_toArray, List.set_cons_zero, List.set_cons_succ])
        refine take1 (i := 8) (v := ?_) rfl (by kernel_rfl) (by kernel_rfl) (by kernel_rfl) (by kernel_rfl) (by kernel_rfl) (by decide) (by decide) (fun _ _ _ h => h) (Or.inl ⟨by rfl, ?_⟩) hR hR ?_
        rotate_left
        · intro w hSw
          (try unfold GB BoxG at hSw)
          go_simp
          all_goals with_reducible rfl
        (try simp only [Act.put, List.setIfInBounds_toArray, List.set_cons_zero, List.set_cons_succ])
        refine take1 (i := 9) (v := ?_) rfl (by kernel_rfl) (by kernel_rfl) (by kernel_rfl) (by kernel_rfl) (by kernel_rfl) (by decide) (by decide) (fun _ _ _ h => h) (Or.inl ⟨by rfl, ?_⟩) hR hR ?_
        rotate_left
        · intro w hSw
          (try unfold GB BoxG at hSw)
          go_simp
          all_goals with_reducible rfl
        (try simp only [Act.put, List.setIfInBounds_toArray, List.set_cons_zero, List.set_cons_succ])
        refine take1 (i := 10) (v := ?_) rfl (by kernel_rfl) (by kernel_rfl) (by kernel_rfl) (by kernel_rfl) (by kernel_rfl) (by decide) (by decide) (fun _ _ _ h => h) (Or.inl ⟨by rfl, ?_⟩) hR hR ?_
        rotate_left
        · intro w hSw
          (try unfold GB BoxG at hSw)
          go_simp
          all_goals with_reducible rfl
        (try simp only [Act.put, List.setIfInBounds_toArray, List.set_cons_zero, List.set_cons_succ])
        refine take1 (i := 11) (v := ?_) rfl (by kernel_rfl) (by kernel_rfl) (by kernel_rfl) (by kernel_rfl) (by kernel_rfl) (by decide) (by decide) (fun _ _ _ h => h) (Or.inl ⟨by rfl, ?_⟩) hR hR ?_
        rotate_left
        · intro w hSw
          (try unfold GB BoxG at hSw)
          go_simp
          all_goals with_reducible rfl
        (try simp only [Act.put, List.setIfInBounds_toArray, List.set_cons_zero, List.set_cons_succ])
        refine take1 (i := 12) (v := ?_) rfl (by kernel_rfl) (by kernel_rfl) (by kernel_rfl) (by kernel_rfl) (by kernel_rfl) (by decide) (by decide) (fun _ _ _ h => h) (Or.inl ⟨by rfl, ?_⟩) hR hR ?_
        rotate_left
        · intro w hSw
          (try unfold GB BoxG at hSw)
          go_simp
          all_goals with_reducible rfl
        (try simp only [Act.put, List.setIfInBounds_toArray, List.set_cons_zero, List.set_cons_succ])
        refine stepT (i := 13) (by kernel_rfl) rfl (fun K hK => ?_)
        go_simp
        refine hK.out _ _ ⟨fun h => absurd h (by decide), fun h => absurd h (by decide)⟩ ?_
        clear hK K
        (try simp only [Act.put, List.setIfInBounds_toArray, List.set_cons_zero, List.set_cons_succ])
        refine doneT (by kernel_rfl) ?_ _
        have R9 := Lib.hid r9
        have B9 := Lib.hid (BA.out.trans (b9.mono BA.out.size))
        clear hR2 hR5 hR0 r9 b9
        go_wp2_with (first
          | (go_at_call 33; (with_reducible refine (HCA.out _ _ _ R9.out).mono ?_); rintro e W10 ⟨rfl, rfl⟩)
          | (go_at_call 10; (refine (HA.out _ (HT.out.keep B9.out)).mono ?_); rintro e W11 ⟨rfl, b11⟩; (have B11 := Lib.hid (B9.out.trans (b11.mono B9.out.size)))))
        go_ret
        exact ⟨rfl, B11.out⟩
    · obtain ⟨bi, oi, ki, ui, hvi, ci, ri⟩ := (R5.out.keep B6.out).at (i := i) (r := [(i : Int)]) (HRW.out i (by omega))
      injection hvi with e0 e00 e000
      subst e0
      have hS := Lib.hid (HQ.out (wr.alloc (.cells #[.int .i64 (i : Int)] 3)) ui _ i (ri.keep (below1 _ _)) (one_lit wr (i : Int)))
      have j1 : (i : Int) < (m : Int) := by omega
      have j2 : i < m := by omega
      clear ri e00 e000
      go_wp2_with (go_at_call 27; (with_reducible refine hS.out.mono ?_); rintro e W7 ⟨rfl, b7⟩; (have B7 := Lib.hid (B6.out.trans ((below_more (below1 wr (.cells #[.int .i64 (i : Int)] 3)) (Nat.le_refl _) b7).mono B6.out.size))); clear b7)
      go_roundg q
      case measure => omega
      case rel => exact ⟨i + 1, by omega, by go_num, B7⟩
end Go.Proofs.YtbcbeffoacfpdaaDoor

namespace Go.Proofs.YtbcbeffoacfpdaaDoor
open Go.RowKit
set_option linter.unusedSimpArgs false
set_option linter.unusedVariables false

theorem make_ints4 (n : Nat) (hn : n ≤ 100000) (W : World) : (Instr.makeSlice 25 (.int .i64 (n : Int)) (.int .i64 (n : Int))).run Tryd.prog W = .ok (.slice (some ⟨W.heap.size, 0, none⟩) n n) (W.alloc (.cells (madeCells #[(.int .i64 0)] n) 3)) :=
  run_make_row' _ _ _ 8 Tryd.underlying25 Tryd.infoI64 rfl _ _ n (by omega) (by omega) W
structure CI4 (w : World) (z : Int) (R n k : Nat) (W : World) : Prop where
  b : Below w.heap.size w W
  r : W.rowIs R 3 n (fun j => if j < k then (.int .i64 z) else .int .i64 0)
theorem infoInts4 : (Tryd.prog.info? 3).map (·.size) = some 1 := by kernel_rfl
theorem sizeInt4 : ∀ w, (Go.sizeOf 3).run Tryd.prog w = .ok 1 w := fun w => by kernel_rfl
set_option maxRecDepth 100000 in
theorem copy_ints4 {w W : World} {z : Int} {R n k : Nat} (h : CI4 w z R n k W) (hR : w.heap.size ≤ R) (hk : k ≤ n) (a : Addr) (sLen cap : Nat) (ty : TypeId) (m : Nat) (hm : m = Nat.min sLen (n - k)) (hc : ∀ j, j < m → W.cell? (a.add j) = some (.int .i64 z)) :
    ∃ W', (Builtin.copy_ #[25, 25] ty #[.slice (some ⟨R, k, none⟩) (n - k) (n - k), .slice (some a) sLen cap]).run Tryd.prog W = .ok (.int .i64 (m : Int)) W' ∧ CI4 w z R n (k + m) W' := by
  have hm2 : m ≤ n - k := by rw [hm]; exact Nat.min_le_right _ _
  have hr := run_copy_cells (P := Tryd.prog) W 25 25 ty 3 R k (n - k) (n - k) a sLen cap (List.replicate m (.int .i64 z)) Tryd.underlying25 infoInts4 (by rw [List.length_replicate]; exact hm)
    (fun j u hj => by
      have hj2 : j < m := by have := (List.getElem?_eq_some_iff.1 hj).1; rwa [List.length_replicate] at this
      rw [List.getElem?_replicate, if_pos hj2] at hj
      injection hj with hj
      subst hj
      exact hc j hj2)
    (fun j hj => by rw [List.length_replicate] at hj; rw [World.rowIs.cell h.r (show k + j < n by omega)]; rfl) (fun j hj => by rw [List.length_replicate] at hj; exact World.rowIs.frozen h.r _)
    (fun u hu => by rw [List.eq_of_mem_replicate hu]; rfl)
  rw [List.length_replicate] at hr
  refine ⟨_, hr, ?_⟩
  refine ⟨Lib.below_setCells R hR _ _ h.b, World.rowIs.congr (rowIs_rep _ m k W _ h.r) (fun i _ => ?_)⟩
  by_cases h1 : k ≤ i ∧ i < k + m
  · rw [if_pos h1]
    rw [if_pos (by omega)]
  · rw [if_neg h1]
    by_cases h2 : i < k
    · rw [if_pos h2, if_pos (by omega)]
    · rw [if_neg h2, if_neg (by omega)]
theorem CI4.drew {w W : World} {z : Int} {R n k : Nat} (h : CI4 w z R n k W) : CI4 w z R n k W.drew := ⟨h.b.drew, h.r⟩
set_option maxRecDepth 100000 in
set_option maxHeartbeats 6400000 in
theorem repeatC_any (n b cap : Nat) (z : Int) (w : World) (hn : n ≤ 256) (hcell : w.cell? ⟨b, 0, none⟩ = some (.int .i64 z)) :
    Calls Tryd.prog 50 #[.slice (some ⟨b, 0, none⟩) 1 cap, .int .i64 (n : Int)] w fun e w' => e = .returned (.slice (some ⟨w.heap.size, 0, none⟩) n n) ∧ w'.rowIs w.heap.size 3 n (fun _ => (.int .i64 z)) ∧ Below w.heap.size w w' := by
  have hM : ∀ W, Calls Tryd.prog 83 #[.int .u64 1, .int .u64 (n : Int)] W fun e w' => e = .returned (.tuple #[.int .u64 0, .int .u64 (n : Int)]) ∧ w' = W := fun W => by
    have k := Tryd.bits_Mul 1 n (by omega) (by omega) W
    rw [show 1 * n / 18446744073709551616 = 0 by omega, show 1 * n % 18446744073709551616 = n by omega] at k
    exact k
  have HM := Lib.hid hM
  clear hM
  have hmx : Tryd.prog.follows .mixedOrders = true := by kernel_rfl
  have hmk := make_ints4 n (by omega)
  have C0 : CI4 w z w.heap.size n 0 (w.alloc (.cells (madeCells #[(.int .i64 0)] n) 3)) :=
    ⟨below1 w _, World.rowIs.congr (World.rowIs_made w _ n _) (fun j _ => by rw [if_neg (by omega)])⟩
  obtain ⟨m, hm⟩ : ∃ m, m = Nat.min 1 (n - 0) := ⟨_, rfl⟩
  obtain ⟨w1, hr1, C1⟩ := copy_ints4 C0 (Nat.le_refl _) (Nat.zero_le _) ⟨b, 0, none⟩ 1 cap 3 m hm (fun j hj => by
    have h1 : m ≤ 1 := by rw [hm]; exact Nat.min_le_left _ _
    obtain rfl : j = 0 := by omega
    exact cell_keep hcell (below1 w _))
  have hm2 : m ≤ n ∧ (n = m ∨ (1 ≤ m ∧ m ≤ n)) := by
    rcases Nat.eq_zero_or_pos n with h | h
    · subst h; have : m = 0 := hm; omega
    · have : m = 1 := by rw [hm, Nat.sub_zero]; exact Nat.min_eq_left h
      omega
  rw [Nat.sub_zero] at hr1
  rw [Nat.zero_add] at C1
  have HC1 := Lib.hid C1
  have d0 : decide ((9223372036854775807 : Int) < (n : Int)) = false := decide_eq_false (by omega)
  clear C0 C1 hcell hm
  go_enter Tryd.func50, Tryd.ntmps50
  go_wp2_with (first
    | (go_at_call 83; (with_reducible refine (HM.out _).mono ?_); rintro e W0 ⟨rfl, hW⟩; (rw [hW]); (clear hW))
    | (at_builtin; refine Lib.wpList_copy_run _ rfl _ _ 25 25 rfl _ _ rfl rfl hr1 ?_))
  clear hr1 HM hmk
  go_loopg [8] n (fun q s8 wx => ∃ k : Nat, k ≤ n ∧ n - k ≤ q ∧ (n = k ∨ 1 ≤ k) ∧ s8 = .int .i64 (k : Int) ∧ Hid (CI4 w z w.heap.size n k wx))
  case atStart => exact ⟨m, hm2.1, by omega, by omega, rfl, HC1⟩
  case round =>
    clear HC1
    obtain ⟨k, hkn, hgk, hk1, rfl, HB⟩ := hrel
    by_cases hlt : k < n
    · have hmin : min (k : Int) (n : Int) = (k : Int) := by omega
      obtain ⟨m', hm'⟩ : ∃ m', m' = Nat.min k (n - k) := ⟨_, rfl⟩
      have hmk : m' ≤ k := by rw [hm']; exact Nat.min_le_left _ _
      have hmn : m' ≤ n - k := by rw [hm']; exact Nat.min_le_right _ _
      have hm1 : 1 ≤ m' := by
        rw [hm']
        exact Nat.le_min.2 ⟨by omega, by omega⟩
      obtain ⟨w2, hr2, C2⟩ := copy_ints4 HB.out.drew (Nat.le_refl _) hkn ⟨w.heap.size, 0, none⟩ k n 3 m' hm' (fun j hj => by
        rw [show (⟨w.heap.size, 0, none⟩ : Addr).add j = ⟨w.heap.size, j, none⟩ by unfold Addr.add; split <;> simp_all]
        rw [World.rowIs.cell HB.out.drew.r (show j < n by omega), if_pos (by omega)])
      have hsl1 : ∀ W, (Instr.slice 25 (.slice (some ⟨w.heap.size, 0, none⟩) n n) (some (.int .i64 (k : Int))) none none).run Tryd.prog W = .ok (.slice (some ⟨w.heap.size, k, none⟩) (n - k) (n - k)) W := fun W => by
        have h := Lib.run_slice_tailV W 25 3 Tryd.underlying25 sizeInt4 w.heap.size n k (by omega)
        unfold Lib.tailV at h
        rw [if_neg (by omega)] at h
        exact h
      have hB2 := Lib.hid C2
      have dk : (0 : Int) ≤ (k : Int) := by omega
      have hw : IntKind.i64.wrap ((k : Int) + (m' : Int)) = (k : Int) + (m' : Int) := by clear hmin; rw [IntKind.wrap_i64]; omega
      have dkn : (k : Int) ≤ (n : Int) := by omega
      clear C2 HB hm'
      go_wp2_with fail
      go_region_law (refine step_copy _ rfl (.tmp 41) (.tmp 44) 25 25 rfl (.slice (some ⟨w.heap.size, k, none⟩) (n - k) (n - k)) (.slice (some ⟨w.heap.size, 0, none⟩) k n) (by simp [Act.eval, Act.put]) (by simp [Act.eval, Act.put]) hr2 ?_)
      clear hr2 hsl1 hmin
      go_wp2
      go_roundg (n - (k + m'))
      case measure => omega
      case rel => exact ⟨k + m', by omega, by omega, by omega, by go_num, hB2⟩
    · obtain rfl : k = n := by omega
      have HB2 := Lib.hid (show wr.rowIs w.heap.size 3 k (fun _ => (.int .i64 z)) from World.rowIs.congr HB.out.r (fun i hi => by rw [if_pos hi]))
      have hb := HB.out.b
      clear HB
      go_wp2
      go_ret
      exact ⟨rfl, HB2.out, hb⟩
end Go.Proofs.YtbcbeffoacfpdaaDoor

namespace Go.Proofs.YtbcbeffoacfpdaaDoor
open Go.RowKit
set_option linter.unusedVariables false

/-- Where a letter leads. -/
def cF (n : Nat) (es : List E3) (j l : Nat) : Int := es.foldl (fun x e => if e.1 = (j : Int) ∧ e.2.1 = (l : Int) then e.2.2 else x) (n : Int)
theorem cF_snoc (n : Nat) (es : List E3) (e : E3) (j l : Nat) : cF n (es ++ [e]) j l = if e.1 = (j : Int) ∧ e.2.1 = (l : Int) then e.2.2 else cF n es j l := by
  unfold cF; rw [List.foldl_append]; rfl
theorem cF_nil (n j l : Nat) : cF n [] j l = (n : Int) := rfl
abbrev rowW (La r : Nat) : Value := .slice (some ⟨r, 0, none⟩) La La
/-- The automaton in a variable, its rows in blocks of their own. -/
structure AB (w : World) (p La i : Nat) (rs : Nat → Nat) (f : Nat → Nat → Int) (lv : Value) (W : World) : Prop where
  hb : Below w.heap.size w W
  hx : W.heap[p]? = some (.cells #[.int .i64 (La : Int), lv] 43 (0, 0))
  hl : W.ownsRow (p + 1) 25 1 lv i ((List.range i).map fun j => rowW La (rs j))
  hr : ∀ j, j < i → p < rs j ∧ IRow W (rs j) La (f j)
  ha : ∀ j k, j < k → k < i → rs j ≠ rs k
section
variable {w W W' : World} {p La i : Nat} {rs : Nat → Nat} {f : Nat → Nat → Int} {lv : Value}
theorem AB.lt (h : AB w p La i rs f lv W) : p < W.heap.size := (Array.getElem?_eq_some_iff.1 h.hx).1
theorem AB.keep (h : AB w p La i rs f lv W) (k : Below W.heap.size W W') : AB w p La i rs f lv W' :=
  ⟨h.hb.trans (k.mono h.hb.size), (k.block p h.lt).trans h.hx, World.ownsRow.kept h.hl (grown_none k) (by cases lv.ownBlock <;> simp), fun j hj => ⟨(h.hr j hj).1, (h.hr j hj).2.keep k⟩, h.ha⟩
theorem AB.drew (h : AB w p La i rs f lv W) : AB w p La i rs f lv W.drew := h.keep (Below.refl _ _).drew
/-- A block of another type is not the list's own. -/
theorem own_ne {X : World} {A s k b : Nat} {t u : TypeId} {v : Value} {xs : List Value} {c : Array Value} {fr : Nat × Nat} (hr : X.ownsRow A t s v k xs) (h : X.heap[b]? = some (.cells c u fr)) (htu : u ≠ t) : v.ownBlock ≠ some b := fun e => by
  obtain ⟨c2, fr2, h2⟩ := row_cells hr e
  rw [h] at h2
  injection h2 with h2
  injection h2 with _ h2 _
  exact htu h2
theorem AB.app (h : AB w p La i rs f lv W) (hp : w.heap.size ≤ p) {R : Nat} (hR : W.heap.size ≤ R) {z : Int} {W5 : World} (k : Below W.heap.size W W5) (hrow : IRow W5 R La (fun _ => z)) (o : Obj) {W4 : World} {v4 : Value}
    (r1 : W4.ownsRow (p + 1) 25 1 v4 (i + 1) (((List.range i).map fun j => rowW La (rs j)) ++ [rowW La R])) (r2 : (W5.alloc o).grownBy W4 lv.ownBlock) :
    AB w p La (i + 1) (fun j => if j = i then R else rs j) (fun j l => if j = i then z else f j l) v4 (W4.setCell ⟨p, 1, none⟩ v4) := by
  have h6 : AB w p La i rs f lv (W5.alloc o) := h.keep (k.alloc k.size o)
  have hrow6 : IRow (W5.alloc o) R La (fun _ => z) := hrow.keep (below1 W5 o)
  have bp : W4.heap[p]? = _ := (r2.block p h6.lt (fun e => own_ne h6.hl h6.hx (by decide) e.symm)).trans h6.hx
  have keepR : ∀ {b : Nat} {g : Nat → Int}, p < b → IRow (W5.alloc o) b La g → IRow (W4.setCell ⟨p, 1, none⟩ v4) b La g := fun {b g} hb hI => by
    have hne : lv.ownBlock ≠ some b := by
      obtain ⟨c, hc, -, -⟩ := id hI
      exact own_ne h6.hl hc (by decide)
    have h1 : IRow W4 b La g := World.rowIs.of_block hI (r2.block b hI.lt (fun e => hne e.symm))
    exact h1.other (by show b ≠ p; omega) v4
  have hpW := h.lt
  refine ⟨?_, ?_, ?_, fun j hj => ?_, fun j l hjl hl => ?_⟩
  · exact (h6.hb.grown r2 h6.hb.size (fun q e => by have := (h6.hl.lt q e).1; omega)).setCell hp _
  · obtain ⟨hlt, hk⟩ := Array.getElem?_eq_some_iff.1 bp
    unfold World.setCell
    simp [Array.getElem?_modify, Array.getElem?_eq_getElem hlt, hk]
  · have e : ((List.range (i + 1)).map fun j => rowW La (if j = i then R else rs j)) = ((List.range i).map fun j => rowW La (rs j)) ++ [rowW La R] := by
      rw [List.range_succ, List.map_append, List.map_singleton, if_pos rfl]
      congr 1
      refine List.map_congr_left fun j hj => ?_
      rw [if_neg (by have := List.mem_range.1 hj; omega)]
    rw [e]
    exact r1.kept (grownBy_setCellJ W4 p 1 v4) (.inr (fun e2 => own_ne r1 bp (by decide) e2))
  · try dsimp only
    by_cases hji : j = i
    · subst hji
      rw [if_pos rfl]
      refine ⟨by omega, ?_⟩
      have := keepR (b := R) (by omega) hrow6
      exact this.congr (fun l _ => by rw [if_pos rfl])
    · rw [if_neg hji]
      have hj' : j < i := by omega
      exact ⟨(h6.hr j hj').1, (keepR (h6.hr j hj').1 (h6.hr j hj').2).congr (fun l _ => by rw [if_neg hji])⟩
  · try dsimp only
    rw [if_neg (show ¬ j = i by omega)]
    by_cases hli : l = i
    · rw [if_pos hli]
      have := (h.hr j (by omega)).2.lt
      omega
    · rw [if_neg hli]
      exact h.ha j l hjl (by omega)
theorem AB.set (h : AB w p La i rs f lv W) (hp : w.heap.size ≤ p) {j l : Nat} (hj : j < i) (z : Int) : AB w p La i rs (fun j' l' => if j' = j ∧ l' = l then z else f j' l') lv (W.setCell ⟨rs j, l, none⟩ (.int .i64 z)) := by
  have hjp := (h.hr j hj).1
  have hne : lv.ownBlock ≠ some (rs j) := by
    obtain ⟨c, hc, -, -⟩ := id (h.hr j hj).2
    exact own_ne h.hl hc (by decide)
  refine ⟨h.hb.setCell (by show w.heap.size ≤ rs j; omega) _, ?_, h.hl.kept (grownBy_setCellJ W (rs j) l _) (.inr hne), fun k hk => ⟨(h.hr k hk).1, ?_⟩, h.ha⟩
  · rw [← h.hx]
    exact Go.Deep.blk_setCell_other _ _ _ _ (by show p ≠ rs j; omega)
  · by_cases hkj : k = j
    · subst hkj
      exact ((h.hr k hk).2.set l z).congr (fun l' _ => by by_cases hl' : l' = l <;> simp [hl'])
    · have hne2 : rs k ≠ rs j := by
        rcases Nat.lt_or_gt_of_ne hkj with hlt | hlt
        · exact h.ha k j hlt hj
        · exact (h.ha j k hlt hk).symm
      exact ((h.hr k hk).2.other hne2 _).congr (fun l' _ => by rw [if_neg (fun e => hkj e.1)])
theorem AB.rd (h : AB w p La i rs f lv W) : RowsRd W lv ((List.range i).map fun j => (List.range La).map (f j)) := by
  obtain ⟨a, c, rfl⟩ := own_slice h.hl
  refine ⟨a, c, by rw [List.length_map, List.length_range], fun j r hr => ?_⟩
  rw [List.getElem?_map] at hr
  by_cases hj : j < i
  · rw [List.getElem?_range hj] at hr
    injection hr with hr
    subst hr
    obtain ⟨g, c2, hv, -⟩ := World.ownsRow.form h.hl (by omega)
    injection hv with e1 e2 e3
    subst e1
    refine ⟨g, 0, rowW La (rs j), rfl, ?_, ?_⟩
    · rw [Nat.zero_add, World.ownsRow.cellAt h.hl j (by omega), List.getElem?_map, List.getElem?_range hj]; rfl
    · refine ⟨some ⟨rs j, 0, none⟩, La, by rw [List.length_map, List.length_range], fun l x hx => ?_⟩
      rw [List.getElem?_map] at hx
      by_cases hl : l < La
      · rw [List.getElem?_range hl] at hx
        injection hx with hx
        subst hx
        exact ⟨rs j, 0, rfl, by rw [Nat.zero_add]; exact (h.hr j hj).2.cell hl⟩
      · rw [List.getElem?_eq_none (by rw [List.length_range]; omega)] at hx; cases hx
  · rw [List.getElem?_eq_none (by rw [List.length_range]; omega)] at hr; cases hr
end
end Go.Proofs.YtbcbeffoacfpdaaDoor
