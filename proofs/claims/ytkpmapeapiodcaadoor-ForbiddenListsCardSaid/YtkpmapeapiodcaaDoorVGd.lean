/- ForbiddenLists returns true for every input. Conditions: the words can be read; lengths are those of strings and slices. Lists of words among a law's arguments, opened; the library's MaxLen in a world of the program's shape. No condition. ForbiddenLists returns true for every input: the law's row, and its card, tied to the program's text. Conditions: those of the row: its tables read as listed (the card ties them to the program's text). -/
import Derived.Test.YtkpmapeapiodcaaDoorQ15
import Derived.Test.YtkpmapeapiodcaaDoorQ17
import Derived.SliceStrings
import Derived.ChangeSlices
import Derived.Carry

namespace Go.Proofs.YtkpmapeapiodcaaDoor
open Go.RowKit Go.Shelf
set_option linter.unusedSimpArgs false
set_option linter.unusedVariables false

theorem RedW.short {l r : List Wd} (h : RedW l r) : r.length ≤ l.length :=
  nodup_leF (h.1.imp (fun {a b} hab e => by subst e; exact ltW_irr _ hab)) (fun x hx => h.sub hx)
/-- The minimal words, or none. -/
def RdS (q : Int) (l s : List Wd) : Prop := (clW q false l = 0 → RedW l s) ∧ (clW q false l ≠ 0 → s = [])
theorem RdS.same {q : Int} {l s t : List Wd} (h1 : RdS q l s) (h2 : RdS q l t) : s = t := by
  by_cases h : clW q false l = 0
  · exact (h1.1 h).uniq (h2.1 h)
  · rw [h1.2 h, h2.2 h]
theorem RdS.short {q : Int} {l s : List Wd} (h : RdS q l s) (hl : l.length ≤ 100000) : s.length ≤ 100000 := by
  by_cases h0 : clW q false l = 0
  · exact Nat.le_trans (h.1 h0).short hl
  · rw [h.2 h0]; exact Nat.zero_le _
theorem reduceG_any (q : Int) (l : List Wd) (v : Value) (w : World) (hrd : WdsRd w v l) (hl : l.length ≤ 100000) (hx : ∀ x ∈ l, x.length ≤ 9223372036854775807) :
    Calls Tryd.prog 7 #[.int .i64 q, v] w fun e w' => ∃ a c s, e = .returned (.tuple #[.slice a s.length c, .int .i64 (clW q false l)]) ∧ WdsRd w' (.slice a s.length c) s ∧ RdS q l s ∧ Below w.heap.size w w' := by
  by_cases h : clW q false l = 0
  · refine (reduce_yes q l v w hrd h).mono ?_
    rintro e w' ⟨u, r, rfl, hu, hr, hb⟩
    obtain ⟨a, c, rfl⟩ := hu.slice
    exact ⟨a, c, r, by rw [h], hu.rd, ⟨fun _ => hr, fun h2 => absurd h h2⟩, hb⟩
  · refine (reduce_no q l v w hrd hl hx h).mono ?_
    rintro e w' ⟨rfl, hb⟩
    exact ⟨none, 0, [], rfl, ⟨none, 0, rfl, fun i x hx => by cases hx⟩, ⟨fun h2 => absurd h2 h, fun _ => rfl⟩, hb⟩
set_option maxRecDepth 100000 in
set_option maxHeartbeats 6400000 in
theorem forbLists_great (q : Int) (l : List Wd) (x : Wd) (v : Value) (w : World) (hrd : WdsRd w v l) (hl : l.length ≤ 9223372036854775807) (hls : ∀ x ∈ l, x.length ≤ 9223372036854775807) (hx : x.length ≤ 9223372036854775807) (h : rgr l = true ∨ 40 < x.length) :
    Calls Tryd.prog 3 #[.int .i64 q, v, .string ⟨x.toArray⟩] w fun e w' => e = .returned (.bool true) ∧ Below w.heap.size w w' := by
  have HG := Lib.hid (rgreat14_any l v w hrd hl hls)
  obtain ⟨a, c, rfl⟩ := hrd.form
  obtain ⟨R, hR⟩ : ∃ R, rgr l = R := ⟨_, rfl⟩
  rw [hR] at HG h
  obtain ⟨L, hL⟩ : ∃ L, x.length = L := ⟨_, rfl⟩
  have hsz : (⟨x.toArray⟩ : ByteArray).size = L := by rw [← hL]; simp [ByteArray.size]
  rw [hL] at hx h
  clear hrd hR hL hls
  cases R with
  | true =>
    clear h
    go_enter Tryd.func3, Tryd.ntmps3
    go_wp2_with (first
      | (go_at_call 5; (with_reducible refine HG.out.mono ?_); rintro e W1 ⟨rfl, hw⟩; (try subst hw))
      | (go_at_call 6; (with_reducible refine (awakeF_any _).mono ?_); rintro e W8 ⟨rfl, b8⟩; (have X8 := Lib.hid b8); clear b8))
    go_ret
    exact ⟨rfl, X8.out⟩
  | false =>
    have d1 : 40 < (L : Int) := by rcases h with h | h; cases h; omega
    clear h
    go_enter Tryd.func3, Tryd.ntmps3
    go_wp2_with (first
      | (go_at_call 5; (with_reducible refine HG.out.mono ?_); rintro e W1 ⟨rfl, hw⟩; (try subst hw))
      | (go_at_call 6; (with_reducible refine (awakeF_any _).mono ?_); rintro e W8 ⟨rfl, b8⟩; (have X8 := Lib.hid b8); clear b8))
    go_ret
    exact ⟨rfl, X8.out⟩
set_option maxRecDepth 100000 in
set_option maxHeartbeats 6400000 in
theorem forbLists_small (q : Int) (l : List Wd) (x : Wd) (v : Value) (w : World) (hrd : WdsRd w v l) (hl : l.length ≤ 67) (hls : ∀ x ∈ l, x.length ≤ 35) (hx : x.length ≤ 40) (h : rgr l = false) :
    Calls Tryd.prog 3 #[.int .i64 q, v, .string ⟨x.toArray⟩] w fun e w' => e = .returned (.bool true) ∧ Below w.heap.size w w' := by
  have hls2 : ∀ y ∈ l, y.length ≤ 9223372036854775807 := fun y hy => by have := hls y hy; omega
  have HG := Lib.hid (rgreat14_any l v w hrd (by omega) hls2)
  rw [h] at HG
  have H1 := Lib.hid (reduceG_any q l v w hrd (by omega) hls2)
  have H2 := Lib.hid (fun W hb => rreduce_any q l v W (hrd.keep hb) (by omega) hls2)
  have H3 := Lib.hid (fun W hb => allowedG_any q l x v W (hrd.keep hb) (by omega) hls2 (by omega))
  have H4 := Lib.hid (fun W hb => rallowedG_any q l x v W (hrd.keep hb) (by omega) hls2 (by omega))
  have H5 := Lib.hid (fun W hb => checkF_any q l v W (hrd.keep hb) (by omega) hls2)
  have H6 := Lib.hid (fun W hb => rlist_any q l v W (hrd.keep hb) (by omega) hls2)
  have H7 := Lib.hid (fun W hb => longest_any l v W (hrd.keep hb) (by omega))
  have H8 := Lib.hid (fun W hb => rlongest_any l v W (hrd.keep hb) (by omega))
  have HEQ := Lib.hid (fun s v1 v2 W (h1 : WdsRd W v1 s) (h2 : WdsRd W v2 s) (hs : s.length ≤ 100000) => eqW_any s s v1 v2 W h1 h2 hs hs)
  have hl9 : l.length ≤ 100000 := by omega
  obtain ⟨a, c, rfl⟩ := hrd.form
  obtain ⟨L, hL⟩ : ∃ L, x.length = L := ⟨_, rfl⟩
  have hsz : (⟨x.toArray⟩ : ByteArray).size = L := by rw [← hL]; simp [ByteArray.size]
  rw [hL] at hx
  have d1 : ¬ 40 < (L : Int) := by omega
  obtain ⟨A1, hA1⟩ : ∃ A1, (allW q l x).1 = A1 := ⟨_, rfl⟩
  obtain ⟨A2, hA2⟩ : ∃ A2, (allW q l x).2 = A2 := ⟨_, rfl⟩
  rw [hA1, hA2] at H3 H4
  obtain ⟨Z, hZ⟩ : ∃ Z, clW q true l = Z := ⟨_, rfl⟩
  rw [hZ] at H5 H6
  obtain ⟨M, hM⟩ : ∃ M, longW l = M := ⟨_, rfl⟩
  rw [hM] at H7 H8
  clear hrd h hL hls hls2 hA1 hA2 hZ hM
  go_enter Tryd.func3, Tryd.ntmps3
  go_upto_region 5 with (first
    | (go_at_call 5; (with_reducible refine HG.out.mono ?_); rintro e W0 ⟨rfl, hw⟩; (try subst hw))
    | (go_at_call 7; (with_reducible refine H1.out.mono ?_); rintro e W1 ⟨a1, c1, s1, rfl, r1, s1h, b1⟩; (have R1 := Lib.hid r1); (have S1 := Lib.hid s1h); (have B1 := Lib.hid b1); clear r1 s1h b1)
    | (go_at_call 8; (with_reducible refine (H2.out _ B1.out).mono ?_); rintro e W2 ⟨g2, c2, s2, rfl, r2, y2, n2, b2⟩; (obtain rfl := RdS.same S1.out ⟨y2, n2⟩); (have R2 := Lib.hid r2); (have R1b := Lib.hid (R1.out.keep b2)); (have B2 := Lib.hid (below_more B1.out (Nat.le_refl _) b2)); clear r2 y2 n2 b2))
  have HSS := Lib.hid (S1.out.short hl9)
  obtain ⟨E, hE⟩ : ∃ E, clW q false l = E := ⟨_, rfl⟩
  rw [hE]
  clear hE R1 B1 H1 H2 HG S1
  cases A1
  all_goals go_wp2_with (first
    | (go_at_call 9; (with_reducible refine (H3.out _ B2.out).mono ?_); rintro e W3 ⟨rfl, b3⟩; (have R3 := Lib.hid (R2.out.keep b3)); (have R3b := Lib.hid (R1b.out.keep b3)); (have B3 := Lib.hid (below_more B2.out (Nat.le_refl _) b3)); clear b3)
    | (go_at_call 10; (with_reducible refine (H4.out _ B3.out).mono ?_); rintro e W4 ⟨rfl, b4⟩; (have R4 := Lib.hid (R3.out.keep b4)); (have R4b := Lib.hid (R3b.out.keep b4)); (have B4 := Lib.hid (below_more B3.out (Nat.le_refl _) b4)); clear b4)
    | (go_at_call 11; (with_reducible refine (H5.out _ B4.out).mono ?_); rintro e W5 ⟨rfl, b5⟩; (have R5 := Lib.hid (R4.out.keep b5)); (have R5b := Lib.hid (R4b.out.keep b5)); (have B5 := Lib.hid (below_more B4.out (Nat.le_refl _) b5)); clear b5)
    | (go_at_call 12; (with_reducible refine (H6.out _ B5.out).mono ?_); rintro e W6 ⟨rfl, b6⟩; (have R6 := Lib.hid (R5.out.keep b6)); (have R6b := Lib.hid (R5b.out.keep b6)); (have B6 := Lib.hid (below_more B5.out (Nat.le_refl _) b6)); clear b6)
    | (go_at_call 13; (with_reducible refine (HEQ.out _ _ _ _ R6b.out R6.out HSS.out).mono ?_); rintro e W7 ⟨rfl, b7⟩; (have B7 := Lib.hid (below_more B6.out (Nat.le_refl _) b7)); clear b7)
    | (go_at_call 14; (with_reducible refine (H7.out _ B7.out).mono ?_); rintro e W8 ⟨rfl, h8⟩; (try subst h8))
    | (go_at_call 15; (with_reducible refine (H8.out _ B7.out).mono ?_); rintro e W9 ⟨rfl, h9⟩; (try subst h9))
    | (go_at_call 6; (with_reducible refine (awakeF_any _).mono ?_); rintro e W10 ⟨rfl, b10⟩; (have B10 := Lib.hid (below_more B7.out (Nat.le_refl _) b10)); clear b10))
  all_goals go_ret
  all_goals exact ⟨rfl, B10.out⟩
set_option maxRecDepth 100000 in
theorem forbLists_any (q : Int) (l : List Wd) (x : Wd) (v : Value) (w : World) (hrd : WdsRd w v l) (hl : l.length ≤ 9223372036854775807) (hls : ∀ x ∈ l, x.length ≤ 9223372036854775807) (hx : x.length ≤ 9223372036854775807) :
    Calls Tryd.prog 3 #[.int .i64 q, v, .string ⟨x.toArray⟩] w fun e w' => e = .returned (.bool true) ∧ Below w.heap.size w w' := by
  by_cases hg : rgr l = true ∨ 40 < x.length
  · exact forbLists_great q l x v w hrd hl hls hx hg
  · have h1 : rgr l = false := by
      cases h : rgr l with
      | true => exact absurd (.inl h) hg
      | false => rfl
    have h2 : x.length ≤ 40 := by
      rcases Nat.lt_or_ge 40 x.length with h | h
      · exact absurd (.inr h) hg
      · exact h
    obtain ⟨h3, h4⟩ := rgr_small h1
    exact forbLists_small q l x v w hrd h3 h4 h2 h1
end Go.Proofs.YtkpmapeapiodcaaDoor

namespace Go.Proofs.YtkpmapeapiodcaaDoor
open Go.ChangeShapes Go.WideShapes Go.ChangeAt Go.RowKit Go.Deep
set_option maxRecDepth 100000

theorem Tryd.laidOutF : laidOutB Tryd.prog = true := by kernel_rfl
theorem cellSF : Tryd.prog.cellsOf 9 = 1 := by kernel_rfl
theorem words_open {H : Type} {enc : TypeId × Value → H} {W : World} {v : Value} {d : DataW H} {p : List MemPlace} (hv : Value.okWide Tryd.prog W .any 0 22 v)
    (h : DataW.Trod enc Tryd.prog W 0 (fun _ => true) true 22 v d p) : ∃ l, WdsRd W v l ∧ l.length ≤ 9223372036854775807 ∧ ∀ x ∈ l, x.length ≤ 9223372036854775807 := by
  obtain ⟨a0, len0, cap0, rfl⟩ := okWide_slice Tryd.underlying22 hv
  obtain ⟨fuel, hf⟩ := h
  rcases open_strings Tryd.underlying22 Tryd.underlying9 cellSF hf with ⟨hc, -⟩ | ⟨a, len, cap, ss, hc, -, hl, hm, hz, -, hall, hss⟩
  · simp [Value.cells] at hc
    obtain ⟨rfl, rfl, rfl⟩ := hc
    exact ⟨[], ⟨none, 0, rfl, fun i x hx => by cases hx⟩, Nat.zero_le _, by simp⟩
  · simp [Value.cells] at hc
    obtain ⟨rfl, rfl, rfl⟩ := hc
    simp only [if_true] at hz
    have hcap : cap0 ≤ 9223372036854775807 := by unfold maxLen at hm; exact hm
    have hlt : ((ss.take len0).map fun s => s.data.toList).length = len0 := by rw [List.length_map, List.length_take]; omega
    refine ⟨(ss.take len0).map fun s => s.data.toList, ⟨some a, cap0, by rw [hlt], fun i x hx => ?_⟩, by rw [hlt]; omega, fun x hx => ?_⟩
    · have hi : i < len0 := by
        have := (List.getElem?_eq_some_iff.1 hx).1
        rwa [hlt] at this
      rw [List.getElem?_map, List.getElem?_take_of_lt hi] at hx
      have hsp := World.cell?_spot (hall 0 (by omega))
      obtain ⟨ab, ao, sp⟩ := a
      obtain rfl : sp = none := by simpa [Addr.add] using hsp
      have h1 := hall i (by omega)
      rw [show (⟨ab, ao, none⟩ : Addr).add i = ⟨ab, ao + i, none⟩ from Go.WideShapes.add_plain ab ao i] at h1
      refine ⟨ab, ao, rfl, ?_⟩
      rw [h1, List.getD_eq_getElem?_getD]
      obtain ⟨s, hs, rfl⟩ := Option.map_eq_some_iff.1 hx
      rw [hs]
      rfl
    · obtain ⟨s, hs, rfl⟩ := List.mem_map.1 hx
      have h1 := hss s (List.mem_of_mem_take hs)
      unfold maxLen at h1
      have h2 : s.data.toList.length = s.size := by rw [Array.length_toList]; rfl
      rw [h2]
      exact h1
theorem words_keep {H : Type} {enc : TypeId × Value → H} {W W' : World} {v : Value} {d : DataW H} {p : List MemPlace} (h : DataW.Trod enc Tryd.prog W 0 (fun _ => true) true 22 v d p) (hb : Below W.heap.size W W') (hlt : ∀ x ∈ p, x.block < W.heap.size) :
    DataW.Trod enc Tryd.prog W' 0 (fun b => decide (b < W.heap.size)) true 22 v d p :=
  Below.trod Tryd.laidOutF (by kernel_rfl) (of_decide_eq_true (by kernel_rfl)) h hb hlt
theorem mx_shaped {W : World} (hS : W.ShapedOpen Tryd.prog) : MX W := by
  unfold MX
  obtain ⟨cs, hh, hs, hr⟩ := hS.1 0 #[.int .i64 0] 3 (of_decide_eq_true (by kernel_rfl)) (by kernel_rfl)
  obtain ⟨ts, hts, _, hall⟩ := hr (by kernel_rfl)
  rw [show Tryd.prog.cellTypes Tryd.prog.depth 3 = some [3] by kernel_rfl] at hts
  cases hts
  have h1 : 0 < cs.size := by rw [hs]; exact Nat.zero_lt_one
  clear hs hr hS
  obtain ⟨u, hu', hok⟩ := hall 0 cs[0] (Array.getElem?_eq_getElem h1)
  have hu : u = 3 := by
    have h2 : (some 3 : Option TypeId) = some u := hu'
    exact (Option.some.inj h2).symm
  subst hu
  have hcell : W.cell? ⟨0, 0, none⟩ = some cs[0] := by
    unfold World.cell?
    dsimp only
    rw [hh]
    exact Array.getElem?_eq_getElem h1
  rw [hcell]
  clear hall hh hcell hu'
  generalize cs[0] = v at hok
  unfold Cell.ok at hok
  rw [Tryd.underlying3] at hok
  cases v <;> first | (simp at hok; obtain ⟨rfl, _⟩ := hok; exact ⟨_, rfl⟩) | simp at hok
end Go.Proofs.YtkpmapeapiodcaaDoor

namespace Go.Proofs.YtkpmapeapiodcaaDoor.forbiddenLists
open Go.ChangeShapes Go.WideShapes Go.ChangeAt Go.RowKit
open Go.ChangeMaps (open_string shut_string)
set_option maxRecDepth 100000
set_option linter.unusedVariables false

theorem contract (H : Type) (enc : TypeId × Value → H) (W : World) (args : Array Value) (ds gs : List (DataW H)) (before : List MemPlace)
    (hval : ∀ (j : Nat) t v, Tryd.f3.params[j]? = some t → args[j]? = some v → Value.okWide Tryd.prog W .any 0 t v)
    (hW : DataW.Whole enc Tryd.prog Tryd.f3.params.toList Rows.forbiddenListsSpec.vars false W args.toList ds gs before) (hL : laidMetH Tryd.prog Rows.forbiddenListsRow.laid W) (hS : W.ShapedOpen Tryd.prog) :
    Calls Tryd.prog 3 args W fun e W' => ∃ v, e = .returned v ∧ Rows.forbiddenListsSpec.post enc Tryd.prog Tryd.f3 false true false false W args v W' := by
  have hW' := hW
  obtain ⟨p, q, hA0, hV, rfl, hfz, hnd⟩ := hW
  have hA : DataW.TrodAll enc Tryd.prog W 0 (fun _ => true) true Tryd.f3.params.toList args.toList ds p := hA0
  rw [Tryd.params3] at hA hval
  obtain ⟨v0, vs0, d0, ds0, p0, q0, hargs, rfl, rfl, h0, r0⟩ := trodAll_cons hA
  obtain ⟨v1, vs1, d1, ds1, p1, q1, rfl, rfl, rfl, h1, r1⟩ := trodAll_cons r0
  obtain ⟨v2, vs2, d2, ds2, p2, q2, rfl, rfl, rfl, h2, r2⟩ := trodAll_cons r1
  obtain ⟨rfl, rfl, rfl⟩ := trodAll_nil r2
  obtain rfl : args = #[v0, v1, v2] := by cases args; simp_all
  obtain ⟨rfl, rfl⟩ := trodVars_none hV
  obtain ⟨n0, rfl, rfl, rfl, w0⟩ := open_int Tryd.underlying3 (hval 0 3 v0 rfl rfl) h0
  obtain ⟨l1, k1, len1, wd1⟩ := words_open (hval 1 22 v1 rfl rfl) h1
  have t1 : ∀ x ∈ p1, x.block < W.heap.size := fun x hx => by simpa using hW'.lt x (by simp [hx])
  obtain ⟨s2, rfl, rfl, rfl, z2⟩ := open_string Tryd.underlying9 (hval 2 9 v2 rfl rfl) h2
  clear hA0
  have hsz : s2.data.toList.length ≤ 9223372036854775807 := by
    have h1 : s2.size ≤ maxLen := z2
    have h2 : s2.data.toList.length = s2.size := by rw [Array.length_toList]; rfl
    rw [h2]
    unfold maxLen at h1
    omega
  refine (forbLists_any n0 l1 s2.data.toList v1 W k1 len1 wd1 hsz).mono fun e W' ⟨he, hb⟩ => ?_
  subst he
  refine ⟨_, rfl, _, _, _, [], (([] : List MemPlace) ++ (p1 ++ (([] : List MemPlace) ++ []))), [], hW', ?_, ?_, ?_, hb.frame _, fun h => by cases h⟩
  · exact trodAll_cons_mk (p := []) (shut_bool Tryd.underlying4 true) trodAll_mk0
  · exact (trodAll_cons_mk (p := []) (shut_int Tryd.underlying3 w0) (trodAll_cons_mk (words_keep h1 hb t1) (trodAll_cons_mk (p := []) (shut_string Tryd.underlying9 z2) trodAll_mk0)))
  · rfl

theorem reads (os : Os) {H : Type} (enc : TypeId × Value → H) : ∃ places, DataW.whole enc Tryd.prog ((laidWorld os).forCall (fun _ _ => 0) ⟨#[], #[.int .i64 0, .slice none 0 0, .string ⟨#[]⟩], []⟩).memory Tryd.f3.params.toList Rows.forbiddenListsSpec.vars false [.int .i64 0, .slice none 0 0, .string ⟨#[]⟩] 8 = some ([.lit (.int .i64 0), .nil, .lit (.string [])], [], places) :=
  ⟨[], by kernel_rfl⟩

theorem lifted (os : Os) (started : os.Started) (H : Type) (enc : TypeId × Value → H) (F : Stop.Interp) :
    ReturnsInHanded {} Tryd.checked os 3 .any ((OpenSpec.ofChange Rows.forbiddenListsSpec).preRow enc Tryd.prog Tryd.f3 Rows.forbiddenListsRow.domain false Rows.forbiddenListsRow.laid) (((OpenSpec.ofChange Rows.forbiddenListsSpec).at F).post enc Tryd.prog Tryd.f3 false true false false) := by
  obtain ⟨places, hx⟩ := reads os enc
  refine returnsInHanded_of_row (C := Tryd.checked) (s := OpenSpec.ofChange Rows.forbiddenListsSpec) ownNone started (by kernel_rfl) Tryd.func3
    (witness_row_at (enc := enc) (C := Tryd.checked) false (laidWorld os) #[.int .i64 0, .slice none 0 0, .string ⟨#[]⟩] rfl (by kernel_rfl) (by kernel_rfl) (by kernel_rfl)
      (OpenSpec.preRow_of_cond 8 hx (by kernel_rfl) (fun k hk => by cases hk) (by kernel_rfl) (laid_met os _))) ?_
  intro W base args ds gs before hval hW _ _ _ hL hS _
  exact contract H enc W args ds gs before hval hW hL hS

theorem said : Rows.ForbiddenListsSaid :=
  OpenClaim.holds_of_cond 3 Tryd.f3 rfl rfl rfl rfl rfl rfl rfl ⟨rfl, rfl, rfl, rfl, rfl⟩ rfl rfl rfl rfl rfl (by kernel_rfl) Tryd.func3 (by kernel_rfl)
    (of_decide_eq_true (by kernel_rfl)) (by unfold Func.isWrapper; first | (rw [if_pos (by decide +kernel)]; kernel_rfl) | (rw [if_neg (by decide +kernel)]; exact ⟨rfl, rfl⟩))
    (fun os started H enc _ F => by rw [OpenClaim.pre_eq_preRow]; exact lifted os started H enc F)

theorem ns0 : Tryd.prog.wantsStandIn 3 = false := by kernel_rfl
theorem ns1 : Tryd.prog.wantsStandIn 22 = false := by kernel_rfl
theorem ns2 : Tryd.prog.wantsStandIn 9 = false := by kernel_rfl

theorem plain (f : FuncId) (fn : Func) (hf : Tryd.pinned.checked.prog.funcNamed "groove/groovelaw14.ForbiddenLists" = some f) (hfn : Tryd.pinned.checked.prog.funcs[f]? = some fn) :
    false = Tryd.pinned.checked.prog.looks [] ∧ ∀ (j : Nat) t, fn.params[j]? = some t → Tryd.pinned.checked.prog.wantsStandIn t = false := by
  obtain rfl : f = 3 := Option.some.inj ((show Tryd.prog.funcNamed "groove/groovelaw14.ForbiddenLists" = some 3 by kernel_rfl).symm.trans hf) |>.symm
  obtain rfl : fn = Tryd.f3 := (Option.some.inj (Tryd.func3.symm.trans hfn)).symm
  refine ⟨by kernel_rfl, fun j t ht => ?_⟩
  rw [Tryd.params3] at ht
  have hm := Array.mem_of_getElem? ht
  have hm : t = 3 ∨ t = 22 ∨ t = 9 := by simpa using hm
  rcases hm with rfl | rfl | rfl
  · exact ns0
  · exact ns1
  · exact ns2

/-- ForbiddenLists's card. -/
theorem card : Rows.ForbiddenListsCardSaid :=
  Claim7.holds_tied_plain_at .later [] _ _ _ _ said (fun _ h => by cases h) (by kernel_rfl) (fun _ h => by cases h) forbiddenLists_row_tie rfl ⟨rfl, rfl⟩ (by kernel_rfl) rfl plain (by kernel_rfl)
end Go.Proofs.YtkpmapeapiodcaaDoor.forbiddenLists
