/- Plain, for graph.read: what CutSuffix, CutPrefix and the numbers of the lines say of a text. No condition. -/
import Derived.Test.YtoekemfgmdbnbaaDoorVyb
namespace Go.Proofs.YtoekemfgmdbnbaaDoor
open Go.RowKit
set_option linter.unusedSimpArgs false
set_option linter.unusedVariables false

theorem suf_yes {s p : List UInt8} (h : Lib.hasSuffix s p = true) : Lib.trimSuffix s p ++ p = s := by
  unfold Lib.trimSuffix
  rw [if_pos h]
  unfold Lib.hasSuffix at h
  obtain ⟨t, rfl⟩ := List.isSuffixOf_iff_suffix.1 h
  rw [List.length_append, Nat.add_sub_cancel, List.take_left]
theorem suf_no {s p : List UInt8} (h : Lib.hasSuffix s p = false) (x : List UInt8) : s ≠ x ++ p := by
  rintro rfl
  unfold Lib.hasSuffix at h
  rw [List.isSuffixOf_iff_suffix.2 (List.suffix_append x p)] at h
  cases h
theorem pre_yes {s p : List UInt8} (h : Lib.hasPrefix s p = true) : p ++ Lib.trimPrefix s p = s := by
  unfold Lib.trimPrefix
  rw [if_pos h]
  unfold Lib.hasPrefix at h
  obtain ⟨t, rfl⟩ := List.isPrefixOf_iff_prefix.1 h
  rw [List.drop_left]
theorem pre_no {s p : List UInt8} (h : Lib.hasPrefix s p = false) (x : List UInt8) : s ≠ p ++ x := by
  rintro rfl
  unfold Lib.hasPrefix at h
  rw [List.isPrefixOf_iff_prefix.2 (List.prefix_append p x)] at h
  cases h
theorem valP_dec {u : Nat} (h : u < 1000000000) : valP (Lib.decDigits u) = (u : Int) := valP_at (atoi_dec h)
theorem numP_dec {u : Nat} (h : u < 1000000000) : NumP (Lib.decDigits u) := ⟨u, h, rfl⟩
theorem nums_two {line : List UInt8} {ps : List (List UInt8)} (h : Parts 32 line ps) (hl : ps.length = 2) (hn : ∀ p ∈ ps, NumP p) :
    ∃ L n : Nat, L < 1000000000 ∧ n < 1000000000 ∧ line = jnT [L, n] ∧ valP (ps.getD 0 []) = (L : Int) ∧ valP (ps.getD 1 []) = (n : Int) := by
  match ps, hl with
  | [p, q], _ =>
    obtain ⟨L, hL, rfl⟩ := hn p List.mem_cons_self
    obtain ⟨n, hn2, rfl⟩ := hn q (List.mem_cons_of_mem _ List.mem_cons_self)
    refine ⟨L, n, hL, hn2, ?_, valP_dec hL, valP_dec hn2⟩
    rw [jnT_jn, ← h.all]
    rfl
theorem nums_three {line : List UInt8} {ps : List (List UInt8)} (h : Parts 32 line ps) (hl : ps.length = 3) (hn : ∀ p ∈ ps, NumP p) :
    ∃ e : E3, SmE e ∧ line = lnE e ∧ valP (ps.getD 0 []) = e.1 ∧ valP (ps.getD 1 []) = e.2.1 ∧ valP (ps.getD 2 []) = e.2.2 := by
  match ps, hl with
  | [p, q, r], _ =>
    obtain ⟨x, hx, rfl⟩ := hn p List.mem_cons_self
    obtain ⟨y, hy, rfl⟩ := hn q (List.mem_cons_of_mem _ List.mem_cons_self)
    obtain ⟨z, hz, rfl⟩ := hn r (List.mem_cons_of_mem _ (List.mem_cons_of_mem _ List.mem_cons_self))
    refine ⟨((x : Int), (y : Int), (z : Int)), by unfold SmE; dsimp only; omega, ?_, valP_dec hx, valP_dec hy, valP_dec hz⟩
    unfold lnE
    rw [jnT_jn, ← h.all]
    rfl
theorem nums_no {line : List UInt8} {k : Nat} (h : ∀ ps, Parts 32 line ps → ¬ (ps.length = k ∧ ∀ p ∈ ps, NumP p)) {ns : List Nat} (h0 : ns ≠ []) (hk : ns.length = k) (hn : ∀ n ∈ ns, n < 1000000000) : line ≠ jnT ns := by
  rintro rfl
  refine h _ (Parts.nums h0) ⟨by rw [List.length_map]; exact hk, fun p hp => ?_⟩
  obtain ⟨n, hm, rfl⟩ := List.mem_map.1 hp
  exact numP_dec (hn n hm)
/-- A text's parts so far: the whole without its end, its lines. -/
def Tells (s : List UInt8) (L n : Nat) (es : List E3) : Prop := SmG L n es ∧ s = prG L n es
theorem tells_suf {s : List UInt8} (h : Lib.hasSuffix s [10] = false) {L n : Nat} {es : List E3} : ¬ Tells s L n es := fun ⟨_, h2⟩ => by
  rw [prG_jn] at h2
  exact suf_no h _ h2
theorem tells_lines {s whole : List UInt8} {ls : List (List UInt8)} (hw : whole ++ [10] = s) (hp : Parts 10 whole ls) {L n : Nat} {es : List E3} (h : Tells s L n es) : ls = (gph ++ jnT [L, n]) :: es.map lnE :=
  prG_lines (by rw [hw]; exact h.2) hp
theorem tells_pre {s whole first : List UInt8} {ls : List (List UInt8)} (hw : whole ++ [10] = s) (hp : Parts 10 whole ls) (h0 : ls[0]? = some first) (h1 : Lib.hasPrefix first gph = false) {L n : Nat} {es : List E3} : ¬ Tells s L n es := fun h => by
  rw [tells_lines hw hp h] at h0
  injection h0 with h0
  exact pre_no h1 _ h0.symm
theorem tells_two {s whole first rest : List UInt8} {ls : List (List UInt8)} (hw : whole ++ [10] = s) (hp : Parts 10 whole ls) (h0 : ls[0]? = some first) (h1 : gph ++ rest = first) (h2 : ∀ ps, Parts 32 rest ps → ¬ (ps.length = 2 ∧ ∀ p ∈ ps, NumP p)) {L n : Nat} {es : List E3} : ¬ Tells s L n es := fun h => by
  rw [tells_lines hw hp h, ← h1] at h0
  injection h0 with h0
  have h3 := List.append_cancel_left h0
  exact nums_no h2 (ns := [L, n]) (by simp) rfl h.1.two h3.symm
theorem tells_three {s whole line : List UInt8} {ls : List (List UInt8)} {i : Nat} (hw : whole ++ [10] = s) (hp : Parts 10 whole ls) (hi : ls[i + 1]? = some line) (h2 : ∀ ps, Parts 32 line ps → ¬ (ps.length = 3 ∧ ∀ p ∈ ps, NumP p)) {L n : Nat} {es : List E3} : ¬ Tells s L n es := fun h => by
  rw [tells_lines hw hp h, List.getElem?_cons_succ, List.getElem?_map] at hi
  obtain ⟨e, he, rfl⟩ := Option.map_eq_some_iff.1 hi
  exact nums_no h2 (ns := [e.1.toNat, e.2.1.toNat, e.2.2.toNat]) (by simp) rfl (h.1.e e (List.mem_of_getElem? he)).nums rfl
theorem tells_yes {s whole rest : List UInt8} {ls : List (List UInt8)} {L n : Nat} {es : List E3} (hw : whole ++ [10] = s) (hp : Parts 10 whole ls) (h0 : ls = (gph ++ rest) :: es.map lnE) (h1 : rest = jnT [L, n]) (hL : L < 1000000000) (hn : n < 1000000000) (he : ∀ e ∈ es, SmE e) : Tells s L n es :=
  ⟨⟨hL, hn, he⟩, by rw [← hw]; exact prG_of hp (by rw [h0, h1])⟩
end Go.Proofs.YtoekemfgmdbnbaaDoor
