/- Rational numbers among the arguments of a row, and what lies in block 0. No condition. The text of a rational number is parsed to it, and what can be parsed is the text of what comes out. No condition. -/
import Derived.Test.YtabmhckgdncjlaaGreatDoorQ39
import Derived.Test.YtabmhckgdncjlaaGreatDoorQ35

namespace Go.Proofs.YtabmhckgdncjlaaGreatDoor
open Go.ChangeShapes Go.WideShapes Go.ChangeAt Go.RowKit
open Go.ChangeMaps (open_string shut_string)
set_option linter.unusedSimpArgs false

theorem cellsRat : Tryz.prog.cellsOf 25 = 4 := by kernel_rfl
theorem cellsBool : Tryz.prog.cellsOf 4 = 1 := by kernel_rfl
theorem cellsStr : Tryz.prog.cellsOf 9 = 1 := by kernel_rfl
section
variable {H : Type} {enc : TypeId × Value → H} {w : World} {base b0 : Nat} {sp : Nat → Bool} {held : Bool} {r : Reach}
set_option maxRecDepth 100000 in
theorem int_cells {n : Nat} {c0 c1 : Value} {y : DataW H × List MemPlace} (hf : DataW.trod enc Tryz.prog w base sp held n 23 [c0, c1] = some y) :
    ∃ (g : Bool) (s : ByteArray), c0 = .bool g ∧ c1 = .string s ∧ y = (.agg [.lit (.bool g), .lit (.string s.data.toList)], []) ∧ s.size ≤ maxLen := by
  obtain ⟨y0, y1, m, rfl, _, h0, h1⟩ := trod_struct2 Tryz.underlying23 hf
  have h0' : DataW.trod enc Tryz.prog w base sp held m 4 [c0] = some y0 := by simpa [cellsBool] using h0
  have h1' : DataW.trod enc Tryz.prog w base sp held m 9 [c1] = some y1 := by simpa [cellsStr] using h1
  obtain ⟨g, e0, rfl⟩ := DataW.trod_bool Tryz.underlying4 h0'
  obtain ⟨s, e1, rfl, hs⟩ := DataW.trod_string Tryz.underlying9 h1'
  simp at e0 e1
  subst e0 e1
  exact ⟨g, s, rfl, rfl, rfl, hs⟩
set_option maxRecDepth 100000 in
/-- A rational number that was handed in, opened. -/
theorem rat_open {v : Value} {d : DataW H} {p : List MemPlace} (hv : Value.okWide Tryz.prog w r b0 25 v) (h : DataW.Trod enc Tryz.prog w base sp held 25 v d p) :
    ∃ (na : Bool) (sa : ByteArray) (nb : Bool) (sb : ByteArray), v = .agg #[.bool na, .string sa, .bool nb, .string sb] ∧ d = .agg [.agg [.lit (.bool na), .lit (.string sa.data.toList)], .agg [.lit (.bool nb), .lit (.string sb.data.toList)]] ∧ p = [] ∧ sa.size ≤ maxLen ∧ sb.size ≤ maxLen := by
  obtain ⟨cs, rfl, hsz⟩ := okWide_struct Tryz.underlying25 hv
  obtain ⟨c0, c1, c2, c3, rfl⟩ := Joins.array4 (hsz.trans cellsRat)
  obtain ⟨fuel, hf⟩ := h
  obtain ⟨y0, y1, n, hx, _, h0, h1⟩ := trod_struct2 Tryz.underlying25 hf
  have h0' : DataW.trod enc Tryz.prog w base sp held n 23 [c0, c1] = some y0 := by simpa [cellsInt, Value.cells] using h0
  have h1' : DataW.trod enc Tryz.prog w base sp held n 23 [c2, c3] = some y1 := by simpa [cellsInt, Value.cells] using h1
  obtain ⟨na, sa, rfl, rfl, rfl, z0⟩ := int_cells h0'
  obtain ⟨nb, sb, rfl, rfl, rfl, z1⟩ := int_cells h1'
  simp only [Prod.mk.injEq] at hx
  exact ⟨na, sa, nb, sb, rfl, hx.1, hx.2, z0, z1⟩
set_option maxRecDepth 100000 in
theorem rat_shut {na nb : Bool} {sa sb : ByteArray} (ha : sa.size ≤ maxLen) (hb : sb.size ≤ maxLen) :
    DataW.Trod enc Tryz.prog w base sp held 25 (.agg #[.bool na, .string sa, .bool nb, .string sb]) (.agg [.agg [.lit (.bool na), .lit (.string sa.data.toList)], .agg [.lit (.bool nb), .lit (.string sb.data.toList)]]) [] := by
  obtain ⟨n0, t0⟩ := int_shut (enc := enc) (w := w) (base := base) (sp := sp) (held := held) (ng := na) ha
  obtain ⟨n1, t1⟩ := int_shut (enc := enc) (w := w) (base := base) (sp := sp) (held := held) (ng := nb) hb
  have ts := trod_struct2_mk (enc := enc) (w := w) (base := base) (spare := sp) (held := held) (n := max n0 n1) (cs := [.bool na, .string sa, .bool nb, .string sb]) Tryz.underlying25 (by simp [cellsRat])
    (by simpa [cellsInt, Value.cells] using DataW.trod_le (Nat.le_max_left n0 n1) t0) (by simpa [cellsInt, Value.cells] using DataW.trod_le (Nat.le_max_right n0 n1) t1)
  exact ⟨_, by simpa [Value.cells] using ts⟩
end
set_option maxRecDepth 100000 in
theorem zero0 {W : World} (hS : W.ShapedOpen Tryz.prog) : Zero0 W := by
  obtain ⟨cs, hh, hs, hr⟩ := hS.1 0 #[.int .i64 0] 3 (of_decide_eq_true (by kernel_rfl)) (by kernel_rfl)
  obtain ⟨ts, hts, _, hall⟩ := hr (by kernel_rfl)
  rw [show Tryz.prog.cellTypes Tryz.prog.depth 3 = some [3] by kernel_rfl] at hts
  cases hts
  have h1 : 0 < cs.size := by rw [hs]; exact Nat.zero_lt_one
  clear hs hr hS
  obtain ⟨u, hu', hok⟩ := hall 0 cs[0] (Array.getElem?_eq_getElem h1)
  have hu : u = 3 := by
    have h2 : (some 3 : Option TypeId) = some u := hu'
    exact (Option.some.inj h2).symm
  subst hu
  have hcell : W.cell? ⟨0, 0, none⟩ = some cs[0] := by
    unfold World.cell?
    dsimp only
    rw [hh]
    exact Array.getElem?_eq_getElem h1
  unfold Zero0
  rw [hcell]
  clear hall hh hcell hu'
  generalize cs[0] = v at hok
  unfold Cell.ok at hok
  rw [Tryz.underlying3] at hok
  cases v <;> first | (simp at hok; obtain ⟨rfl, _⟩ := hok; exact ⟨_, rfl⟩) | simp at hok
theorem noStandR : Tryz.prog.wantsStandIn 25 = false := by kernel_rfl
end Go.Proofs.YtabmhckgdncjlaaGreatDoor

namespace Go.Proofs.YtabmhckgdncjlaaGreatDoor
open Go.RowKit
set_option linter.unusedSimpArgs false

theorem idx_none : ∀ {l : List UInt8}, (47 : UInt8) ∉ l → Lib.index l [47] = -1
  | [], _ => by rfl
  | b :: l, h => by
    have h1 : (47 : UInt8) ≠ b := fun e => h (by rw [e]; exact List.mem_cons_self)
    have h2 : (47 : UInt8) ∉ l := fun e => h (List.mem_cons_of_mem _ e)
    unfold Lib.index
    rw [idx_none h2]
    simp [List.isPrefixOf, h1]
theorem idx_hit : ∀ {a b : List UInt8}, (47 : UInt8) ∉ a → Lib.index (a ++ 47 :: b) [47] = (a.length : Int)
  | [], b, _ => by simp [Lib.index, List.isPrefixOf]
  | c :: a, b, h => by
    have h1 : (47 : UInt8) ≠ c := fun e => h (by rw [e]; exact List.mem_cons_self)
    have h2 : (47 : UInt8) ∉ a := fun e => h (List.mem_cons_of_mem _ e)
    rw [List.cons_append]
    unfold Lib.index
    rw [idx_hit h2]
    have h3 : ((a.length : Int) == -1) = false := by
      rw [beq_eq_false_iff_ne]
      omega
    simp [List.isPrefixOf, h1, h3]
theorem cut_none {l : List UInt8} (h : (47 : UInt8) ∉ l) : Lib.cut l [47] = (l, [], false) := by
  unfold Lib.cut
  simp [idx_none h]
theorem cut_hit {a b : List UInt8} (h : (47 : UInt8) ∉ a) : Lib.cut (a ++ 47 :: b) [47] = (a, b, true) := by
  unfold Lib.cut
  rw [idx_hit h]
  have h1 : (0 : Int) ≤ (a.length : Int) := by omega
  simp [h1, List.drop_append]
theorem cut_back {l a b : List UInt8} {c : Bool} (e : Lib.cut l [47] = (a, b, c)) : (c = false ∧ a = l) ∨ (c = true ∧ l = a ++ 47 :: b) := by
  by_cases h : (47 : UInt8) ∈ l
  · obtain ⟨x, y, rfl, hx⟩ := List.eq_append_cons_of_mem h
    rw [cut_hit hx] at e
    injection e with e1 e2
    injection e2 with e2 e3
    exact Or.inr ⟨e3.symm, by rw [e1, e2]⟩
  · rw [cut_none h] at e
    injection e with e1 e2
    injection e2 with e2 e3
    exact Or.inl ⟨e3.symm, e1.symm⟩
theorem dig_no {l : List UInt8} (h : l.all digB = true) : (47 : UInt8) ∉ l := fun hm => by
  have := List.all_eq_true.1 h 47 hm
  exact absurd this (by decide)
theorem prZ_no (z : Int) : (47 : UInt8) ∉ prZ z := by
  rcases int_cases z with rfl | ⟨N, hN, rfl⟩ | ⟨N, hN, rfl⟩
  · decide
  · rw [prZ_neg hN]
    intro hm
    rcases List.mem_cons.1 hm with h | h
    · exact absurd h (by decide)
    · exact dig_no (pr_facts N).2.1 h
  · rw [prZ_pos hN]; exact dig_no (pr_facts N).2.1
theorem pq_prQ (q : Rat) : pq (prQ q) = some q := by
  unfold prQ
  split
  · rename_i h
    unfold pq
    rw [cut_none (prZ_no _), pz_print]
    show (if false = false then some ((q.num : Int) : Rat) else _) = some q
    rw [if_pos rfl]
    congr 1
    have h1 := Rat.num_divInt_den q
    rw [h] at h1
    exact (divInt_one q.num).symm.trans h1
  · rename_i h
    unfold pq
    rw [cut_hit (prZ_no _)]
    simp only [pz_print, Rat.num_divInt_den]
    rw [if_neg (by decide), if_neg (by rintro (h1 | h1); exact h (by omega); exact h1 (by simp))]
theorem prQ_pq {l : List UInt8} {q : Rat} (h : pq l = some q) : prQ q = l := by
  obtain ⟨a, b, c, ec⟩ : ∃ a b c, Lib.cut l [47] = (a, b, c) := ⟨_, _, _, rfl⟩
  unfold pq at h
  rw [ec] at h
  dsimp only at h
  rcases hn : pz a with _ | n
  · rw [hn] at h; cases h
  rw [hn] at h
  dsimp only at h
  rcases cut_back ec with ⟨rfl, rfl⟩ | ⟨rfl, rfl⟩
  · rw [if_pos rfl] at h
    injection h with h
    subst h
    unfold prQ
    rw [if_pos (Rat.den_intCast _)]
    exact print_pz hn
  · rw [if_neg (by decide)] at h
    rcases hd : pz b with _ | d
    · rw [hd] at h; cases h
    rw [hd] at h
    dsimp only at h
    split at h
    · cases h
    rename_i hc
    injection h with h
    have h1 : d ≠ 1 := fun e => hc (Or.inl e)
    have h2 : n = (Rat.divInt n d).num ∧ d = ((Rat.divInt n d).den : Int) := by
      rcases Classical.em (n = (Rat.divInt n d).num ∧ d = ((Rat.divInt n d).den : Int)) with h2 | h2
      · exact h2
      · exact absurd (Or.inr h2) hc
    rw [h] at h2
    unfold prQ
    rw [if_neg (by intro e; rw [e] at h2; exact h1 h2.2), ← h2.1, ← h2.2, print_pz hn, print_pz hd]
theorem pq_bd {l : List UInt8} {q : Rat} {k : Nat} (h : pq l = some q) (hl : l.length ≤ k) : RatBd q (k + 2) := by
  obtain ⟨a, b, c, ec⟩ : ∃ a b c, Lib.cut l [47] = (a, b, c) := ⟨_, _, _, rfl⟩
  obtain ⟨la, lb⟩ := cut_len ec
  unfold pq at h
  rw [ec] at h
  dsimp only at h
  rcases hn : pz a with _ | n
  · rw [hn] at h; cases h
  rw [hn] at h
  dsimp only at h
  have bn := pz_bd hn (show a.length ≤ k + 1 by omega)
  split at h
  · injection h with h
    rw [← h, ← divInt_one]
    exact ratBd_divInt bn (Nat.one_lt_pow (by omega) (by omega))
  · rcases hd : pz b with _ | d
    · rw [hd] at h; cases h
    rw [hd] at h
    dsimp only at h
    split at h
    · cases h
    injection h with h
    rw [← h]
    exact ratBd_divInt bn (pz_bd hd (by omega))
theorem prQ_len {q : Rat} {k : Nat} (h : RatBd q k) : (prQ q).length ≤ 36 * k + 5 := by
  have h1 := prZ_len (k := k) h.1
  have h2 := prZ_len (z := (q.den : Int)) (k := k) (by rw [Int.natAbs_natCast]; exact h.2)
  unfold prQ
  split
  · omega
  · rw [List.length_append, List.length_cons]; omega
end Go.Proofs.YtabmhckgdncjlaaGreatDoor
