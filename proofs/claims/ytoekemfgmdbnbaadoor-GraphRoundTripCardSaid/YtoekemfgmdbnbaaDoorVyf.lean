/- What graph.Print returns where the library's variables read as LG says: the text of a valid graph, the error of another. Condition: the edges can be read. -/
import Derived.Test.YtoekemfgmdbnbaaDoorVye
namespace Go.Proofs.YtoekemfgmdbnbaaDoor
open Go.RowKit
set_option linter.unusedSimpArgs false
set_option linter.unusedVariables false

theorem tab_lt {w : World} {name : String} {k : IntKind} {zs : List Int} (h : Lib.TabIs Tryd.prog w name k zs) : ∃ g, Tryd.prog.globalNamed name = some g ∧ g < w.heap.size := by
  unfold Lib.TabIs World.var? at h
  cases hg : Tryd.prog.globalNamed name with
  | none => rw [hg] at h; cases h
  | some g =>
    rw [hg] at h
    simp only [Option.bind_some] at h
    refine ⟨g, rfl, ?_⟩
    rcases Nat.lt_or_ge g w.heap.size with h' | h'
    · exact h'
    · rw [Array.getElem?_eq_none h'] at h; cases h
theorem tab_low {w W W' : World} {name : String} {k : IntKind} {zs : List Int} (h0 : Lib.TabIs Tryd.prog w name k zs) (h : Lib.TabIs Tryd.prog W name k zs) (hb : Below w.heap.size W W') : Lib.TabIs Tryd.prog W' name k zs := by
  obtain ⟨g, hg, hl⟩ := tab_lt h0
  unfold Lib.TabIs World.var? at h ⊢
  rw [hg] at h ⊢
  simp only [Option.bind_some] at h ⊢
  rw [hb.block g hl]
  exact h
theorem LG.low {w W W' : World} (h0 : LG w) (h : LG W) (hb : Below w.heap.size W W') : LG W' := by
  obtain ⟨⟨m0, k1⟩, ⟨e0, k2, -⟩, ⟨f0, k3, -⟩, k4⟩ := h0
  obtain ⟨⟨m, h1⟩, ⟨e2, h2, h3⟩, ⟨e4, h4, h5⟩, h6⟩ := h
  have l1 := World.block_lt_of_cell? _ _ k1
  have l2 := World.block_lt_of_cell? _ _ k2
  have l3 := World.block_lt_of_cell? _ _ k3
  exact ⟨⟨m, (hb.cell l1).trans h1⟩, ⟨e2, (hb.cell l2).trans h2, h3⟩, ⟨e4, (hb.cell l3).trans h4, h5⟩, tab_low k4 h6 hb⟩
theorem itoaOK_lg : ItoaOK 999999999 LG := fun d W hd h => itoa_lg d (by omega) W h
theorem print_lg (L n : Nat) (es : List E3) (v : Value) (w : World) (h : LG w) (hrd : EdgesRd w v es) (hvg : VG (L : Int) (n : Int) es) :
    Calls Tryd.prog 6 #[grV (L : Int) (n : Int) v] w fun e w' => e = .returned (.tuple #[.string ⟨(prG L n es).toArray⟩, .int .i64 0]) ∧ Below w.heap.size w w' := by
  have h1 := hvg.l2
  have h2 := hvg.s2
  refine print_good (by omega) itoaOK_lg L n es v w (fun W W' hW hb => ?_) hrd hvg h ⟨by omega, by omega, fun e he => ?_⟩
  · exact h.low hW hb
  · have h3 := okE_iff.1 (hvg.ok e he)
    omega
set_option maxRecDepth 100000 in
theorem print_bad (L S : Int) (es : List E3) (v : Value) (w : World) (hrd : EdgesRd w v es) (hn : es.length ≤ 9223372036854775807) (h0 : chkG L S es ≠ 0) :
    Calls Tryd.prog 6 #[grV L S v] w fun e w' => e = .returned (.tuple #[.string ⟨#[]⟩, .int .i64 1]) ∧ Below w.heap.size w w' := by
  have HRD := Lib.hid hrd
  have HV := Lib.hid (fun W h => isValid_any L S es v W h hn)
  have B0 := Lib.hid (below1 w (.cells #[.int .i64 L, .int .i64 S, v] 24))
  have H0 := Lib.hid (show (chkG L S es == 0) = false by simpa using h0)
  obtain ⟨a, c, rfl⟩ := hrd.form
  clear hrd h0
  go_enter Tryd.func6, Tryd.ntmps6
  go_wp2_with (go_at_call 15; (with_reducible refine (HV.out _ (HRD.out.keep B0.out)).mono ?_); rintro e0 W1 ⟨rfl, b1⟩; (rw [H0.out]); (have B1 := Lib.hid (below_more B0.out (Nat.le_refl _) b1)); (clear b1))
  exact bodyPost_ret (v := .tuple #[.string ⟨#[]⟩, .int .i64 1]) (by simp [results, Tryd.results6, go_sem]) rfl ⟨rfl, B1.out⟩
end Go.Proofs.YtoekemfgmdbnbaaDoor
