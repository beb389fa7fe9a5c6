/- What word.occurrences yields: the offsets at which a string occurs, in ascending order. Condition: both have at most 10^5 bytes. -/
import Derived.Test.YtigdjlhihhakmaaDoorWz
import Derived.Test.YtigdjlhihhakmaaDoorRfw
namespace Go.Proofs.YtigdjlhihhakmaaDoor
open Go.RowKit Go.Shelf
attribute [local go_sem] Oper.semAt_some
set_option linter.unusedSimpArgs false
set_option linter.unusedVariables false

def ints (l : List Nat) : List Value := l.map fun (i : Nat) => .int .i64 (i : Int)
theorem ints_len (l : List Nat) : (ints l).length = l.length := List.length_map _
theorem ints_snoc (l : List Nat) (i : Nat) : ints (l ++ [i]) = ints l ++ [.int .i64 (i : Int)] := by unfold ints; rw [List.map_append]; rfl
theorem grown_none {w w' : World} (h : Below w.heap.size w w') : w.grownBy w' none := ⟨h.os, h.tape, h.output, h.size, fun k hk _ => h.block k hk⟩
/-- What lies in memory between two rounds: the record of the loop, and the list so far. -/
def LJ (l D s N B : Nat) (REC : Loop) (pre : List Nat) (W0 W : World) : Prop :=
  W.heap[l]? = some (.loop REC) ∧ W.heap[D]? = some (.deferred (some [])) ∧ (∃ v, W.cell? ⟨s, 0, none⟩ = some v ∧ W.frozen? ⟨s, 0, none⟩ = false ∧ W.ownsRow N 3 1 v pre.length (ints pre)) ∧ Below B W0 W ∧ N ≤ W.heap.size
theorem LJ.keep {l D s N B : Nat} {REC : Loop} {pre : List Nat} {W0 W W' : World} (h : LJ l D s N B REC pre W0 W) (hB : B ≤ W0.heap.size) (hb : Below W.heap.size W W') : LJ l D s N B REC pre W0 W' := by
  obtain ⟨h1, h2, ⟨v, h3, h4, h5⟩, h6, h7⟩ := h
  exact ⟨(hb.block l (Array.getElem?_eq_some_iff.1 h1).1).trans h1, (hb.block D (Array.getElem?_eq_some_iff.1 h2).1).trans h2, ⟨v, cell_keep h3 hb, frozen_keep h3 h4 hb, h5.kept (grown_none hb) (by cases v.ownBlock <;> simp)⟩, below_more h6 hB hb, Nat.le_trans h7 hb.size⟩
/-- What lies below N, but for one variable, is as it was. -/
def Fr (N s : Nat) (W W' : World) : Prop := ∀ k, k < N → k ≠ s → W'.heap[k]? = W.heap[k]?
theorem Fr.refl (N s : Nat) (W : World) : Fr N s W W := fun _ _ _ => rfl
theorem Fr.trans {N s : Nat} {A B C : World} (h : Fr N s A B) (k : Fr N s B C) : Fr N s A C := fun i h1 h2 => (k i h1 h2).trans (h i h1 h2)
theorem Fr.cell {N s : Nat} {W W' : World} (h : Fr N s W W') {p : Addr} (h1 : p.block < N) (h2 : p.block ≠ s) : W'.cell? p = W.cell? p := World.cell?_of_block (w := W) (h p.block h1 h2)
theorem Fr.var {N s : Nat} {W W' : World} (h : Fr N s W W') (hN : W.heap.size ≤ N) {p : Addr} {v : Value} (hp : W.cell? p = some v) (h2 : p.block ≠ s) : W'.cell? p = some v :=
  (h.cell (Nat.lt_of_lt_of_le (World.block_lt_of_cell? _ _ hp) hN) h2).trans hp
theorem Fr.tab {N s g n : Nat} {l : List UInt8} {W W' : World} (h : Fr N s W W') (hN : W.heap.size ≤ N) (hT : TabAt W (some ⟨g, 0, none⟩) n l) (h2 : g ≠ s) : TabAt W' (some ⟨g, 0, none⟩) n l :=
  ⟨g, 0, fun _ => rfl, fun i hi => by rw [Nat.zero_add]; exact h.var hN (tab_cell hT hi) h2⟩
/-- Another variable than that of the list. -/
theorem other_var {W : World} {a b : Nat} {u v : Value} (ha : W.cell? ⟨a, 0, none⟩ = some u) (hb : W.cell? ⟨b, 0, none⟩ = some v) (h : u ≠ v) : a ≠ b := fun e => by
  subst e
  rw [ha] at hb
  exact h (Option.some.inj hb)

theorem best_suf {u t : List UInt8} {k : Nat} (h : Best u t k) : ∀ m : Nat, (k : Int) = m → Suf u t m := fun m hm => by
  have : k = m := by omega
  subst this; exact h.1
theorem hBest_whole {u t : List UInt8} {k : Nat} (h : Best u t k) (hk : k = u.length) : u <:+ t := h.whole.1 hk
set_option maxRecDepth 100000 in
set_option maxHeartbeats 3200000 in
theorem occ1_in (l D s B bu bw : Nat) (REC : Loop) (wl ul : List UInt8) (W0 W : World) (hlw : wl.length ≤ 100000) (hlu : ul.length ≤ 100000) (hB : B ≤ W0.heap.size)
    (hY : ∀ N pre i W, LJ l D s N B REC pre W0 W → s < N → pre.length ≤ 100001 → i ≤ 100000 → YieldAt Fence.wide 6 Tryd.prog l #[.int .i64 ((i : Nat) : Int)] W fun e W' => e = .returned (.bool true) ∧ LJ l D s N B REC (pre ++ [i]) W0 W' ∧ Fr N s W W')
    (hu : W.cell? ⟨bu, 0, none⟩ = some (.string ⟨ul.toArray⟩)) (hw : W.cell? ⟨bw, 0, none⟩ = some (.string ⟨wl.toArray⟩)) (hl : W.heap[l]? = some (.loop REC)) (hD : W.heap[D]? = some (.deferred (some []))) (hs : W.cell? ⟨s, 0, none⟩ = some (.slice none 0 0)) (hsf : W.frozen? ⟨s, 0, none⟩ = false) (hBe : Below B W0 W) :
    CallsIn Fence.wide 7 Tryd.prog 84 #[.func (.yield l) #[] #[], .pointer (some ⟨bu, 0, none⟩), .pointer (some ⟨bw, 0, none⟩)] W fun e W' => (∃ v, e = .returned v) ∧ ∃ N, W.heap.size ≤ N ∧ LJ l D s N B REC (occ wl ul) W0 W' := by
  have HY := Lib.hid hY
  have H0 := Lib.hid (And.intro hl (And.intro hD (And.intro hs (And.intro hsf hBe))))
  clear hY hl hD hs hsf hBe
  refine callsIn_of_wp Tryd.func84 rfl trivial ?_ rfl
  simp only [Tryd.ntmps84, List.size_toArray, List.length_cons, List.length_nil, Nat.reduceAdd, Nat.reduceSub, Array.replicate_succ, Array.replicate_zero, List.push_toArray, List.append_toArray, List.nil_append, List.cons_append]
  gi_wp2_with (refine ⟨trivial, ?_⟩; gi_at_call 52; (with_reducible refine (callsIn_wide.2 (borders_any ul _ (by omega))).mono ?_); rintro e W1 ⟨g, bx, bt, c, rfl, x0, x1, hT, hb⟩)
  have Q0 : W1.cell? ⟨s, 0, none⟩ = some (.slice none 0 0) := cell_keep H0.out.2.2.1 hb
  have Q1 : LJ l D s W1.heap.size B REC [] W0 W1 :=
    ⟨(hb.block l (Array.getElem?_eq_some_iff.1 H0.out.1).1).trans H0.out.1, (hb.block D (Array.getElem?_eq_some_iff.1 H0.out.2.1).1).trans H0.out.2.1, ⟨_, Q0, frozen_keep H0.out.2.2.1 H0.out.2.2.2.1 hb, World.ownsRow_nil _ _ _ _⟩, below_more H0.out.2.2.2.2 hB hb, Nat.le_refl _⟩
  have u1 := cell_keep hu hb
  have w1 := cell_keep hw hb
  have n1 := Lib.hid (other_var u1 Q0 (by simp))
  have n2 := Lib.hid (other_var w1 Q0 (by simp))
  have n3 := Lib.hid (other_var x0 Q0 (by simp))
  have n4 := Lib.hid (other_var x1 Q0 (by simp))
  have g0 := tab_cell hT (Nat.succ_pos _)
  have n5 := Lib.hid (other_var g0 Q0 (by simp))
  have HQ := Lib.hid (And.intro Q1 (And.intro u1 (And.intro w1 (And.intro x0 (And.intro x1 hT)))))
  have hsW := Lib.hid (World.block_lt_of_cell? _ _ Q0)
  have hWW := Lib.hid hb.size
  clear hu hw H0 Q0 u1 w1 g0 x0 x1 hT hb
  gi_loopw [6, 7] (fun s6 s7 wr => ∃ (e k : Nat), s6 = .int .i64 (k : Int) ∧ s7 = .int .i64 (e : Int) ∧ e ≤ wl.length ∧ Best ul (wl.take e) k ∧ LJ l D s W1.heap.size B REC (endsTo wl ul e) W0 wr ∧ Fr W1.heap.size s W1 wr) (fun _ s7 _ => (wl.length - intOf s7).toNat)
  case atStart => exact ⟨0, 0, rfl, rfl, Nat.zero_le _, Best.start ul, Q1, Fr.refl _ _ _⟩
  case round =>
    obtain ⟨e, k, rfl, rfl, he, hBest, hJ, hF⟩ := hrel
    obtain ⟨q0, q1, q2, q3, q4, q5⟩ := HQ.out
    have y1 := hF.var (Nat.le_refl _) q1 n1.out
    have y2 := hF.var (Nat.le_refl _) q2 n2.out
    have y3 := hF.var (Nat.le_refl _) q3 n3.out
    have y4 := hF.var (Nat.le_refl _) q4 n4.out
    have yT := hF.tab (Nat.le_refl _) q5 n5.out
    have yt := tab_cell yT (Nat.lt_succ_self ul.length)
    have hkl := hBest.1.1
    have HBest := Lib.hid hBest
    have HJ := Lib.hid hJ
    have HF := Lib.hid hF
    have HT := Lib.hid yT
    have hel := Lib.hid (endsTo_len wl ul e)
    clear q0 q1 q2 q3 q4 q5 hBest hJ hF yT
    by_cases hk : k = ul.length
    · have HS := Lib.hid (hBest_whole HBest.out hk)
      have hlen := Lib.hid (HBest.out.1.len)
      obtain ⟨i, hi⟩ : ∃ i : Nat, (e : Int) - (k : Int) = (i : Int) := ⟨e - k, by have := hlen.out; rw [List.length_take] at this; omega⟩
      have HE := Lib.hid (show endsTo wl ul (e + 1) = endsTo wl ul e ++ [i] by
        unfold endsTo
        rw [if_pos HS.out, show e - ul.length = i by omega]
        cases e <;> rfl)
      obtain ⟨fn, tmps, assign, body, hrun, hR⟩ := HY.out _ _ i _ HJ.out hsW.out (by have := hel.out; omega) (by omega)
      subst hk
      have hk2 : ((ul.length : Int) == (ul.length : Int)) = true := by simp
      gi_wp2
      refine hR.mono ?_
      rintro e' W2 ⟨rfl, hJ2, hF2⟩
      have HF2 := Lib.hid (HF.out.trans hF2)
      have HJ2 := Lib.hid hJ2
      clear y1 y2 y3 y4 yt hJ2 hF2 HT HJ HF hrun hR
      obtain ⟨q0, q1, q2, q3, q4, q5⟩ := HQ.out
      have y1 := HF2.out.var (Nat.le_refl _) q1 n1.out
      have y2 := HF2.out.var (Nat.le_refl _) q2 n2.out
      have y3 := HF2.out.var (Nat.le_refl _) q3 n3.out
      have y4 := HF2.out.var (Nat.le_refl _) q4 n4.out
      have HT2 := Lib.hid (HF2.out.tab (Nat.le_refl _) q5 n5.out)
      have yt := tab_cell HT2.out (Nat.lt_succ_self ul.length)
      clear q0 q1 q2 q3 q4 q5
      by_cases hew : e = wl.length
      · subst hew
        have hll : ((wl.length : Int) == (wl.length : Int)) = true := by simp
        gi_wp2
        refine bodyPost_ret (v := .tuple #[]) (by simp [results, Tryd.results84, go_sem]) rfl ?_
        exact ⟨⟨_, rfl⟩, W1.heap.size, hWW.out, by unfold occ; rw [HE.out]; exact HJ2.out⟩
      · have hel2 : e < wl.length := by omega
        have hne : ((e : Int) == (wl.length : Int)) = false := by rw [beq_eq_false_iff_ne]; omega
        obtain ⟨d, hd⟩ : ∃ d, wl[e]? = some d := ⟨_, List.getElem?_eq_getElem hel2⟩
        have hix := run_at_bytes wl e d hd (e : Int) rfl
        have Htk := Lib.hid (show wl.take (e + 1) = wl.take e ++ [d] by rw [List.take_add_one, hd]; rfl)
        have htl := tab_lt (w := ul) (i := ul.length) (Nat.le_refl _)
        have HX := Lib.hid (ext_any bx bt (ul.length + 1) c _ ul (wl.take e) (tab ul ul.length) d W2 y3 y4 HT2.out (by omega) htl.1 (by omega) htl.2 HBest.out.tab)
        clear hd hew htl
        gi_wp2_with (refine ⟨trivial, ?_⟩; gi_at_call 85; (with_reducible refine (callsIn_wide.2 HX.out).mono ?_); rintro e' W3 ⟨⟨r, rfl, hE⟩, rfl⟩)
        go_roundw
        case rel => exact ⟨e + 1, r, by go_num, by go_num, by omega, by rw [Htk.out]; exact HBest.out.again hE, by rw [HE.out]; exact HJ2.out, HF2.out⟩
        case measure => simp [intOf]; omega
    · have HS := Lib.hid (fun h => hk (HBest.out.whole.2 h))
      have HE := Lib.hid (show endsTo wl ul (e + 1) = endsTo wl ul e by
        conv => lhs; unfold endsTo
        rw [if_neg HS.out, List.append_nil])
      have hk2 : ((k : Int) == (ul.length : Int)) = false := by rw [beq_eq_false_iff_ne]; omega
      by_cases hew : e = wl.length
      · subst hew
        clear hk
        have hll : ((wl.length : Int) == (wl.length : Int)) = true := by simp
        gi_wp2
        refine bodyPost_ret (v := .tuple #[]) (by simp [results, Tryd.results84, go_sem]) rfl ?_
        exact ⟨⟨_, rfl⟩, W1.heap.size, hWW.out, by unfold occ; rw [HE.out]; exact HJ.out⟩
      · have hel2 : e < wl.length := by omega
        have hne : ((e : Int) == (wl.length : Int)) = false := by rw [beq_eq_false_iff_ne]; omega
        obtain ⟨d, hd⟩ : ∃ d, wl[e]? = some d := ⟨_, List.getElem?_eq_getElem hel2⟩
        have hix := run_at_bytes wl e d hd (e : Int) rfl
        have Htk := Lib.hid (show wl.take (e + 1) = wl.take e ++ [d] by rw [List.take_add_one, hd]; rfl)
        have hkl2 := Lib.hid (show k < ul.length by omega)
        have HX := Lib.hid (ext_any bx bt (ul.length + 1) c _ ul (wl.take e) (k : Int) d wr y3 y4 HT.out (by omega) (by omega) (by omega) (by omega) (best_suf HBest.out))
        clear hd hew hk
        gi_wp2_with (refine ⟨trivial, ?_⟩; gi_at_call 85; (with_reducible refine (callsIn_wide.2 HX.out).mono ?_); rintro e' W3 ⟨⟨r, rfl, hE⟩, rfl⟩)
        go_roundw
        case rel => exact ⟨e + 1, r, by go_num, by go_num, by omega, by rw [Htk.out]; exact HBest.out.step hE, by rw [HE.out]; exact HJ.out, HF.out⟩
        case measure => simp [intOf]; omega
end Go.Proofs.YtigdjlhihhakmaaDoor
