/- What rows without listed variables share. No condition. Graphs among a law's arguments, opened. No condition. Plain facts: the merged graph of a deterministic graph: its steps, its words, its classes. No condition. -/
import Derived.Test.YtblkijdodojaeaaRows
import Derived.WalkKit
import Derived.ProofKit
import Derived.OpenShut
import Derived.Deep.DeepHandedRow
import Derived.Below
import Derived.Lib.SmallJoins
import Derived.Test.YtblkijdodojaeaaQ01
import Derived.Test.YtblkijdodojaeaaQ03
import Derived.Deep.SlicePairs
import Derived.Carry
import Derived.Test.YtblkijdodojaeaaQ17

namespace Go.Proofs.Ytblkijdodojaeaa
open Go.ChangeShapes Go.WideShapes Go.ChangeAt Go.RowKit

theorem ownNone : ownKnob Try.prog.godebug = none := by kernel_rfl
end Go.Proofs.Ytblkijdodojaeaa

namespace Go.Proofs.Ytblkijdodojaeaa
open Go.ChangeShapes Go.WideShapes Go.ChangeAt Go.RowKit Go.Deep
set_option maxRecDepth 100000

section
variable {H : Type} {enc : TypeId × Value → H} {P : Program} {w : World} {base : Nat} {spare : Nat → Bool} {held : Bool}
/-- A slice whose elements are structs of three cells, opened at every index. -/
theorem open_slice_triples {t e : TypeId} {f0 f1 f2 : Field} {fuel : Nat} {cs : List Value} {x : DataW H × List MemPlace} (ht : P.underlying t = some (.slice e)) (he : P.underlying e = some (.struct #[f0, f1, f2]))
    (ce : P.cellsOf e = 3) (o0 : f0.offset = 0) (o1 : f1.offset = 1) (o2 : f2.offset = 2) (c0 : P.cellsOf f0.type = 1) (c1 : P.cellsOf f1.type = 1) (c2 : P.cellsOf f2.type = 1)
    (h : DataW.trod enc P w base spare held fuel t cs = some x) :
    (cs = [.slice none 0 0]) ∨
    ∃ (a : Addr) (len cap m n : Nat) (V0 V1 V2 : Nat → Value) (D0 D1 D2 : Nat → DataW H × List MemPlace), cs = [.slice (some a) len cap] ∧ len ≤ cap ∧ cap ≤ maxLen ∧ m = (if spare a.block then cap else len) ∧
      ∀ i, i < m → w.cell? (a.add (i * 3)) = some (V0 i) ∧ w.cell? (a.add (i * 3 + 1)) = some (V1 i) ∧ w.cell? (a.add (i * 3 + 2)) = some (V2 i) ∧
        DataW.trod enc P w base spare held n f0.type [V0 i] = some (D0 i) ∧ DataW.trod enc P w base spare held n f1.type [V1 i] = some (D1 i) ∧ DataW.trod enc P w base spare held n f2.type [V2 i] = some (D2 i) := by
  rcases open_slice ht h with h0 | ⟨a, len, cap, m, n, D, Pl, rfl, hb, hl, hm, hmm, rfl, hx⟩
  · exact Or.inl h0.1
  right
  have each : ∀ i, i < m → ∃ q : Value × Value × Value × (DataW H × List MemPlace) × (DataW H × List MemPlace) × (DataW H × List MemPlace), w.cell? (a.add (i * 3)) = some q.1 ∧ w.cell? (a.add (i * 3 + 1)) = some q.2.1 ∧ w.cell? (a.add (i * 3 + 2)) = some q.2.2.1 ∧
      DataW.trod enc P w base spare held (n - 1) f0.type [q.1] = some q.2.2.2.1 ∧ DataW.trod enc P w base spare held (n - 1) f1.type [q.2.1] = some q.2.2.2.2.1 ∧ DataW.trod enc P w base spare held (n - 1) f2.type [q.2.2.1] = some q.2.2.2.2.2 := by
    intro i hi
    obtain ⟨cs', h1, h2⟩ := hx i hi
    rw [ce] at h1
    obtain ⟨_, hlen, hcell⟩ := World.cells?_some h1
    obtain ⟨xs, k, hk, hxy, _, hxl, hf⟩ := DataW.trod_struct he h2
    have hk' : k = n - 1 := by omega
    subst hk'
    match xs, hxl, cs', hlen with
    | [y0, y1, y2], _, [v0, v1, v2], _ =>
      have g0 := hf 0 f0 rfl
      have g1 := hf 1 f1 rfl
      have g2 := hf 2 f2 rfl
      simp [o0, o1, o2, c0, c1, c2] at g0 g1 g2
      have e0 := hcell 0 (by omega)
      have e1 := hcell 1 (by omega)
      have e2 := hcell 2 (by omega)
      rw [add_add] at e0 e1 e2
      exact ⟨(v0, v1, v2, y0, y1, y2), by simpa using e0, by simpa using e1, by simpa using e2, g0, g1, g2⟩
  obtain ⟨q, hq⟩ := choose_lt each
  exact ⟨a, len, cap, m, n - 1, fun i => (q i).1, fun i => (q i).2.1, fun i => (q i).2.2.1, fun i => (q i).2.2.2.1, fun i => (q i).2.2.2.2.1, fun i => (q i).2.2.2.2.2, rfl, hl, hm, hmm, hq⟩
end
def intOf : Value → Int
  | .int _ z => z
  | _ => 0
theorem Try.laidOut : laidOutB Try.prog = true := by kernel_rfl
theorem cellI : Try.prog.cellsOf 3 = 1 := by kernel_rfl
theorem cellEdge : Try.prog.cellsOf 47 = 3 := by kernel_rfl
theorem cellGraph : Try.prog.cellsOf 24 = 3 := by kernel_rfl
theorem int_bounds {H : Type} {enc : TypeId × Value → H} {W : World} {n : Nat} {u : Value} {y : DataW H × List MemPlace} (h : DataW.trod enc Try.prog W 0 (fun _ => true) true n 3 [u] = some y) : u = .int .i64 (intOf u) ∧ -9223372036854775808 ≤ intOf u ∧ intOf u ≤ 9223372036854775807 := by
  obtain ⟨x, e0, -, w0⟩ := DataW.trod_int Try.underlying3 h
  simp at e0
  have b0 : (IntKind.min .i64) ≤ x ∧ x ≤ (IntKind.max .i64) := by simpa [Lit.wf] using w0
  simp [IntKind.min, IntKind.max, IntKind.signed, IntKind.bits] at b0
  rw [e0]
  exact ⟨rfl, b0.1, b0.2⟩
theorem graph_open {H : Type} {enc : TypeId × Value → H} {W : World} {v : Value} {d : DataW H} {p : List MemPlace} (hv : Value.okWide Try.prog W .any 0 24 v)
    (h : DataW.Trod enc Try.prog W 0 (fun _ => true) true 24 v d p) : ∃ L S u es, v = grV L S u ∧ EdgesRd W u es ∧ es.length ≤ 9223372036854775807 := by
  obtain ⟨u0, u1, u2, y0, y1, y2, n, rfl, -, -, h0, h1, h2⟩ := Joins.open_agg3 Try.underlying24 (by kernel_rfl) cellGraph hv h
  have hg : Value.agg #[u0, u1, u2] = grV (intOf u0) (intOf u1) u2 := by
    show _ = Value.agg #[.int .i64 (intOf u0), .int .i64 (intOf u1), u2]
    rw [← (int_bounds h0).1, ← (int_bounds h1).1]
  refine ⟨intOf u0, intOf u1, u2, ?_⟩
  rcases open_slice_triples Try.underlying22 Try.underlying47 cellEdge rfl rfl rfl cellI cellI cellI h2 with hc | ⟨a, len, cap, m, k, V0, V1, V2, D0, D1, D2, hc, hl, hm, hmm, hall⟩
  · injection hc with hc
    subst hc
    exact ⟨[], hg, ⟨none, 0, rfl, fun i p hp => by cases hp⟩, Nat.zero_le _⟩
  · injection hc with hc
    subst hc
    simp only [if_true] at hmm
    have hcap : cap ≤ 9223372036854775807 := by unfold maxLen at hm; exact hm
    have hlen : ((List.range len).map fun i => ((intOf (V0 i), intOf (V1 i), intOf (V2 i)) : E3)).length = len := by rw [List.length_map, List.length_range]
    refine ⟨(List.range len).map fun i => ((intOf (V0 i), intOf (V1 i), intOf (V2 i)) : E3), hg, ⟨some a, cap, by rw [hlen], fun i e he => ?_⟩, by rw [hlen]; omega⟩
    have hi : i < len := by
      have := (List.getElem?_eq_some_iff.1 he).1
      rwa [hlen] at this
    rw [List.getElem?_map, List.getElem?_range hi] at he
    injection he with he
    subst he
    have hsp := World.cell?_spot (hall 0 (by omega)).1
    obtain ⟨ab, ao, sp⟩ := a
    obtain rfl : sp = none := by simpa [Addr.add] using hsp
    obtain ⟨k0, k1, k2, t0, t1, t2⟩ := hall i (by omega)
    rw [add_plain, (int_bounds t0).1] at k0
    rw [add_plain, (int_bounds t1).1] at k1
    rw [add_plain, (int_bounds t2).1] at k2
    exact ⟨ab, ao, rfl, k0, k1, k2⟩
theorem graph_keep {H : Type} {enc : TypeId × Value → H} {W W' : World} {v : Value} {d : DataW H} {p : List MemPlace} (h : DataW.Trod enc Try.prog W 0 (fun _ => true) true 24 v d p) (hb : Below W.heap.size W W') (hlt : ∀ x ∈ p, x.block < W.heap.size) :
    DataW.Trod enc Try.prog W' 0 (fun b => decide (b < W.heap.size)) true 24 v d p :=
  Below.trod Try.laidOut (by kernel_rfl) (of_decide_eq_true (by kernel_rfl)) h hb hlt
end Go.Proofs.Ytblkijdodojaeaa

namespace Go.Proofs.Ytblkijdodojaeaa
set_option linter.unusedVariables false

theorem firsts_nd {α : Type} [DecidableEq α] (l : List α) : (firsts l).Nodup := by
  refine snocI (P := fun l => (firsts l).Nodup) (by simp [firsts]) (fun w x ih => ?_) l
  rw [firsts_snoc]
  split
  · exact ih
  · rename_i h
    rw [List.nodup_append]
    refine ⟨ih, by simp, fun a ha b hb e => ?_⟩
    rw [List.mem_singleton] at hb
    subst hb
    subst e
    exact h ha
theorem canon_take {α : Type} [DecidableEq α] (l : List α) (k : Nat) : (canon l).take k = canon (l.take k) := by
  refine List.ext_getElem? fun i => ?_
  by_cases hi : i < k
  · rw [List.getElem?_take_of_lt hi]
    by_cases hl : i < l.length
    · have hx := List.getElem?_eq_getElem hl
      generalize l[i] = x at hx
      have hx2 : (l.take k)[i]? = some x := by rw [List.getElem?_take_of_lt hi, hx]
      rw [canon_at hx, canon_at hx2, idx_pre (firsts_preAll l k) ((firsts_mem _ _).2 (List.mem_of_getElem? hx2))]
    · rw [List.getElem?_eq_none (by rw [canon_len]; omega), List.getElem?_eq_none (by rw [canon_len, List.length_take]; omega)]
  · rw [List.getElem?_eq_none (by rw [List.length_take]; omega), List.getElem?_eq_none (by rw [canon_len, List.length_take]; omega)]
theorem canon_idx {c : List Nat} (h : canon c = c) {x : Nat} (hx : x ∈ c) : (firsts c).idxOf x = x := by
  obtain ⟨i, hi⟩ := List.mem_iff_getElem?.1 hx
  have h1 := canon_at hi
  rw [h, hi] at h1
  injection h1 with h1
  exact h1.symm
theorem canon_all {c : List Nat} (h : canon c = c) {q : Nat} (hq : q < numC c) : q ∈ c := by
  have h1 : numC c ≤ (firsts c).length := numC_le c (fun x hx => by
    have h2 := List.idxOf_lt_length_iff.2 ((firsts_mem c x).2 hx)
    rwa [canon_idx h hx] at h2)
  have hl : q < (firsts c).length := by omega
  have h3 := List.getElem?_eq_getElem hl
  have hy : (firsts c)[q] ∈ c := (firsts_mem c _).1 (List.getElem_mem hl)
  generalize (firsts c)[q] = y at h3 hy
  have h4 : (firsts c).idxOf y < (firsts c).length := List.idxOf_lt_length_iff.2 ((firsts_mem c y).2 hy)
  have h5 : (firsts c)[(firsts c).idxOf y]? = some y := by rw [List.getElem?_eq_getElem h4, List.getElem_idxOf h4]
  have h6 := (List.getElem?_inj hl (firsts_nd c)).1 (h3.trans h5.symm)
  rw [canon_idx h hy] at h6
  rw [h6]; exact hy
theorem classN_can (m : Nat → Nat → Nat) (La n : Nat) (hL : 1 ≤ La) : canon (classN m La n) = classN m La n := by
  obtain ⟨C, h1, h2, h3, -⟩ := classN_get m La n hL
  rw [h2, ← canon_take, h3]
theorem classN_step {m : Nat → Nat → Nat} {La n : Nat} (hL : 1 ≤ La) (hm : ∀ s l, s < n + 1 → m s l < n + 1) (hn : ∀ l, m n l = n) {s t l : Nat} (hs : s < n) (ht : t < n) (hl : l < La) (e : (classN m La n).getD s 0 = (classN m La n).getD t 0) :
    (m s l = n ↔ m t l = n) ∧ (m s l < n → m t l < n → (classN m La n).getD (m s l) 0 = (classN m La n).getD (m t l) 0) := by
  have h := (classN_iff hL hm hn hs ht).1 e
  refine ⟨h [l] (by simpa using hl), fun h1 h2 => (classN_iff hL hm hn h1 h2).2 fun w hw => ?_⟩
  exact h (l :: w) (fun x hx => by
    rcases List.mem_cons.1 hx with rfl | hx
    · exact hl
    · exact hw x hx)
theorem mT_of {La n : Nat} {es : List E3} (hvg : VG (La : Int) (n : Int) es) (hd : detE es = true) {e : E3} (he : e ∈ es) : mT n es e.1.toNat e.2.1.toNat = e.2.2.toNat := by
  have hok := okE_iff.1 (hvg.ok e he)
  obtain ⟨f, hf, h1, h2, h3⟩ := mT_hit (n := n) (j := e.1.toNat) (l := e.2.1.toNat) (es := es) ⟨e, he, by omega, by omega⟩
  have := det_uqH hvg hd hf he (by omega) (by omega)
  subst this
  exact h3.symm
/-- The class of a state; behind the last class where there is none. -/
def sinkD (c : List Nat) (n x : Nat) : Nat := if x = n then numC c else c.getD x 0
theorem sinkD_in {c : List Nat} {n x : Nat} (h : x ≠ n) : sinkD c n x = c.getD x 0 := if_neg h
theorem sinkD_out (c : List Nat) (n : Nat) : sinkD c n n = numC c := if_pos rfl
section
variable {La n : Nat} {es : List E3} {c : List Nat}
theorem mg_mem {f : E3} : f ∈ mkE (mgE es c) ↔ ∃ g ∈ es, f = (((c.getD g.1.toNat 0 : Nat) : Int), g.2.1, ((c.getD g.2.2.toNat 0 : Nat) : Int)) := by
  rw [mkE_mem]
  unfold mgE
  rw [List.mem_map]
  constructor
  · rintro ⟨g, hg, rfl⟩; exact ⟨g, hg, rfl⟩
  · rintro ⟨g, hg, rfl⟩; exact ⟨g, hg, rfl⟩
theorem merged_step (hvg : VG (La : Int) (n : Int) es) (hd : detE es = true) (hc : classN (mT n es) La n = c) {x l : Nat} (hx : x ≤ n) (hl : l < La) : mT (numC c) (mkE (mgE es c)) (sinkD c n x) l = sinkD c n (mT n es x l) := by
  have hL1 : 1 ≤ La := by have := hvg.l1; omega
  have hm : ∀ s l, s < n + 1 → mT n es s l < n + 1 := fun s l _ => Nat.lt_succ_of_le (mT_le hvg.ok s l)
  have hn : ∀ l, mT n es n l = n := fun l => mT_none hvg.ok l
  have hcl : c.length = n := by rw [← hc]; exact classN_len _ _ _ hL1
  have hcn : numC c ≤ n := by rw [← hc]; exact classN_num _ _ _ hL1
  have hmv := merged_vg hvg hcl (by have := hvg.s2; omega)
  by_cases h0 : x = n
  · subst h0
    rw [hn, sinkD_out, mT_none hmv.ok]
  · have hxn : x < n := by omega
    rw [sinkD_in h0]
    have key : ∀ f ∈ mkE (mgE es c), f.1 = ((c.getD x 0 : Nat) : Int) → f.2.1 = (l : Int) → mT n es x l < n ∧ f.2.2 = ((c.getD (mT n es x l) 0 : Nat) : Int) := by
      intro f hf h1 h2
      obtain ⟨g, hg, rfl⟩ := mg_mem.1 hf
      have hok := okE_iff.1 (hvg.ok g hg)
      have h3 := mT_of hvg hd hg
      dsimp only at h1 h2
      have h4 : g.2.1.toNat = l := by omega
      rw [h4] at h3
      have h5 : c.getD g.1.toNat 0 = c.getD x 0 := by omega
      rw [← hc] at h5
      obtain ⟨h6, h7⟩ := classN_step hL1 hm hn (s := g.1.toNat) (t := x) (l := l) (by omega) hxn hl h5
      have h8 := hm x l (by omega)
      have h9 : mT n es x l < n := by
        have : mT n es x l ≠ n := fun e => by have := h6.2 e; omega
        omega
      refine ⟨h9, ?_⟩
      have h10 := h7 (by omega) h9
      rw [hc, h3] at h10
      dsimp only
      rw [h10]
    by_cases h1 : ∃ e ∈ es, e.1 = (x : Int) ∧ e.2.1 = (l : Int)
    · obtain ⟨e, he, e1, e2⟩ := h1
      have hok := okE_iff.1 (hvg.ok e he)
      obtain ⟨f, hf, f1, f2, f3⟩ := mT_hit (n := numC c) (j := c.getD x 0) (l := l) (es := mkE (mgE es c)) ⟨_, mg_mem.2 ⟨e, he, rfl⟩, by dsimp only; rw [show e.1.toNat = x by omega], e2⟩
      obtain ⟨k1, k2⟩ := key f hf f1 f2
      rw [sinkD_in (by omega), ← f3, k2, Int.toNat_natCast]
    · rw [mT_miss h1, sinkD_out]
      refine mT_miss ?_
      rintro ⟨f, hf, f1, f2⟩
      obtain ⟨k1, k2⟩ := key f hf f1 f2
      rw [mT_miss h1] at k1
      omega
theorem merged_run (hvg : VG (La : Int) (n : Int) es) (hd : detE es = true) (hc : classN (mT n es) La n = c) : ∀ (w : List Nat) {x : Nat}, (∀ l ∈ w, l < La) → x ≤ n → mrun (mT (numC c) (mkE (mgE es c))) (sinkD c n x) w = sinkD c n (mrun (mT n es) x w)
  | [], _, _, _ => rfl
  | l :: w, x, h, hx => by
    rw [mrun_cons, mrun_cons, merged_step hvg hd hc hx (h l (by simp))]
    exact merged_run hvg hd hc w (fun l hl => h l (by simp [hl])) (mT_le hvg.ok x l)
theorem merged_end (hvg : VG (La : Int) (n : Int) es) (hd : detE es = true) (hc : classN (mT n es) La n = c) {w : List Nat} {x : Nat} (hw : ∀ l ∈ w, l < La) (hx : x < n) : mrun (mT (numC c) (mkE (mgE es c))) (c.getD x 0) w = numC c ↔ mrun (mT n es) x w = n := by
  have hL1 : 1 ≤ La := by have := hvg.l1; omega
  have hcl : c.length = n := by rw [← hc]; exact classN_len _ _ _ hL1
  have h1 := merged_run hvg hd hc w hw (Nat.le_of_lt hx)
  rw [sinkD_in (by omega)] at h1
  rw [h1]
  have h2 := mrun_le (m := mT n es) (fun x l _ => mT_le hvg.ok x l) w (Nat.le_of_lt hx)
  constructor
  · intro h
    by_cases h3 : mrun (mT n es) x w = n
    · exact h3
    · rw [sinkD_in h3] at h
      have := numC_lt c _ (getD_mem (c := c) (i := mrun (mT n es) x w) (by omega))
      omega
  · intro h
    rw [h, sinkD_out]
theorem merged_det (hvg : VG (La : Int) (n : Int) es) (hd : detE es = true) (hc : classN (mT n es) La n = c) : detE (mkE (mgE es c)) = true := by
  have hL1 : 1 ≤ La := by have := hvg.l1; omega
  have hm : ∀ s l, s < n + 1 → mT n es s l < n + 1 := fun s l _ => Nat.lt_succ_of_le (mT_le hvg.ok s l)
  have hn : ∀ l, mT n es n l = n := fun l => mT_none hvg.ok l
  refine (detE_pwH (mkE_pw _)).2 ?_
  refine (mkE_pw (mgE es c)).imp_of_mem ?_
  rintro a b ha hb hlt ⟨h1, h2⟩
  obtain ⟨f, hf, rfl⟩ := mg_mem.1 ha
  obtain ⟨g, hg, rfl⟩ := mg_mem.1 hb
  have k1 := okE_iff.1 (hvg.ok f hf)
  have k2 := okE_iff.1 (hvg.ok g hg)
  have m1 := mT_of hvg hd hf
  have m2 := mT_of hvg hd hg
  dsimp only at h1 h2
  rw [← h2] at m2
  have h5 : c.getD f.1.toNat 0 = c.getD g.1.toNat 0 := by omega
  rw [← hc] at h5
  obtain ⟨-, h7⟩ := classN_step hL1 hm hn (s := f.1.toNat) (t := g.1.toNat) (l := f.2.1.toNat) (by omega) (by omega) (by omega) h5
  have h8 := h7 (by omega) (by omega)
  rw [m1, m2, hc] at h8
  have k3 := (ltE_iff _ _).1 hlt
  dsimp only at k3
  omega
theorem merged_cls (hvg : VG (La : Int) (n : Int) es) (hd : detE es = true) (hc : classN (mT n es) La n = c) : classN (mT (numC c) (mkE (mgE es c))) La (numC c) = List.range (numC c) := by
  have hL1 : 1 ≤ La := by have := hvg.l1; omega
  have hm : ∀ s l, s < n + 1 → mT n es s l < n + 1 := fun s l _ => Nat.lt_succ_of_le (mT_le hvg.ok s l)
  have hn : ∀ l, mT n es n l = n := fun l => mT_none hvg.ok l
  have hcl : c.length = n := by rw [← hc]; exact classN_len _ _ _ hL1
  have hcn : numC c ≤ n := by rw [← hc]; exact classN_num _ _ _ hL1
  have hmv := merged_vg hvg hcl (by have := hvg.s2; omega)
  have hm' : ∀ s l, s < numC c + 1 → mT (numC c) (mkE (mgE es c)) s l < numC c + 1 := fun s l _ => Nat.lt_succ_of_le (mT_le hmv.ok s l)
  have hn' : ∀ l, mT (numC c) (mkE (mgE es c)) (numC c) l = numC c := fun l => mT_none hmv.ok l
  have hcan : canon c = c := by rw [← hc]; exact classN_can _ _ _ hL1
  have hlen := classN_len (mT (numC c) (mkE (mgE es c))) La (numC c) hL1
  have hnd : (classN (mT (numC c) (mkE (mgE es c))) La (numC c)).Nodup := by
    unfold List.Nodup
    rw [List.pairwise_iff_getElem]
    intro i j hi hj hij he
    rw [hlen] at hi hj
    have he2 : (classN (mT (numC c) (mkE (mgE es c))) La (numC c)).getD i 0 = (classN (mT (numC c) (mkE (mgE es c))) La (numC c)).getD j 0 := by
      rw [List.getD_eq_getElem?_getD, List.getD_eq_getElem?_getD, List.getElem?_eq_getElem (by omega), List.getElem?_eq_getElem (by omega), he]
    have h1 := (classN_iff hL1 hm' hn' hi hj).1 he2
    obtain ⟨x, hx⟩ := List.mem_iff_getElem?.1 (canon_all hcan hi)
    obtain ⟨y, hy⟩ := List.mem_iff_getElem?.1 (canon_all hcan hj)
    have hxl := (List.getElem?_eq_some_iff.1 hx).1
    have hyl := (List.getElem?_eq_some_iff.1 hy).1
    have hx2 : c.getD x 0 = i := by rw [List.getD_eq_getElem?_getD, hx]; rfl
    have hy2 : c.getD y 0 = j := by rw [List.getD_eq_getElem?_getD, hy]; rfl
    have h2 : (classN (mT n es) La n).getD x 0 = (classN (mT n es) La n).getD y 0 := (classN_iff hL1 hm hn (by omega) (by omega)).2 fun w hw => by
      rw [← merged_end hvg hd hc hw (x := x) (by omega), ← merged_end hvg hd hc hw (x := y) (by omega), hx2, hy2]
      exact h1 w hw
    rw [hc, hx2, hy2] at h2
    omega
  have h3 := canon_nodup hnd
  rw [classN_can _ _ _ hL1, hlen] at h3
  exact h3
theorem numC_range (k : Nat) : numC (List.range k) = k := by
  refine Nat.le_antisymm (numC_le _ (fun x hx => List.mem_range.1 hx)) ?_
  rcases k with _ | k
  · exact Nat.zero_le _
  · have := numC_lt (List.range (k + 1)) k (List.mem_range.2 (by omega))
    omega
theorem merged_again (hvg : VG (La : Int) (n : Int) es) (hc : c.length = n) (hnc : numC c ≤ 64) : mkE (mgE (mkE (mgE es c)) (List.range (numC c))) = mkE (mgE es c) := by
  have hmv := merged_vg hvg hc hnc
  have h1 : mgE (mkE (mgE es c)) (List.range (numC c)) = mkE (mgE es c) := by
    conv => rhs; rw [← List.map_id (mkE (mgE es c))]
    unfold mgE
    refine List.map_congr_left (fun e he => ?_)
    have hok := okE_iff.1 (hmv.ok e he)
    have g : ∀ i, i < numC c → (List.range (numC c)).getD i 0 = i := fun i hi => by
      rw [List.getD_eq_getElem?_getD, List.getElem?_range hi]; rfl
    rw [g _ (by omega), g _ (by omega)]
    obtain ⟨a, b, d⟩ := e
    dsimp only at hok ⊢
    rw [Int.toNat_of_nonneg (by omega), Int.toNat_of_nonneg (by omega)]
    rfl
  rw [h1]
  exact asc_eq (mkE_pw _) (mkE_pw _) (fun x => mkE_mem)
end
end Go.Proofs.Ytblkijdodojaeaa
