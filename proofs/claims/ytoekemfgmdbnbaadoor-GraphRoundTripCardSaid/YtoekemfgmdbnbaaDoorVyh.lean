/- For GraphRoundTrip's card: what the listed variables hold (LG), and a world that holds them. No condition. -/
import Derived.Test.YtoekemfgmdbnbaaDoorVyg
import Derived.Test.YtoekemfgmdbnbaaDoorVcd
namespace Go.Proofs.YtoekemfgmdbnbaaDoor
open Go.ChangeShapes Go.WideShapes Go.ChangeAt Go.RowKit
set_option linter.unusedVariables false

abbrev restL : List (String × DataW Unit) := [("unicode/utf8.acceptRanges", Rows.laid_unicode_utf8_acceptRanges), ("strconv.ErrRange", Rows.laid_strconv_ErrRange), ("strconv.ErrSyntax", Rows.laid_strconv_ErrSyntax), ("unicode/utf8.first", Rows.laid_unicode_utf8_first)]
def lst7 : List (String × DataW Unit) := [("math/bits.deBruijn32tab", Rows.laid_math_bits_deBruijn32tab), ("math/bits.deBruijn64tab", Rows.laid_math_bits_deBruijn64tab), ("internal/strconv.uint64pow10", Rows.laid_internal_strconv_uint64pow10), ("unicode/utf8.acceptRanges", Rows.laid_unicode_utf8_acceptRanges), ("strconv.ErrRange", Rows.laid_strconv_ErrRange), ("strconv.ErrSyntax", Rows.laid_strconv_ErrSyntax), ("unicode/utf8.first", Rows.laid_unicode_utf8_first)]
theorem lst7_met {W : World} (h : laidMetH Tryd.prog lst7 W) : laidMet Tryd.prog lst7 W := h
theorem gPow : Tryd.prog.globalNamed "internal/strconv.uint64pow10" = some 0 := by kernel_rfl
theorem gPowType : (Tryd.prog.globals[0]?).map (·.type) = some 116 := by kernel_rfl
theorem cellsPow : Tryd.prog.cellsOf 116 = 20 := by kernel_rfl
theorem cellsU64 : Tryd.prog.cellsOf 95 = 1 := by kernel_rfl
theorem tabPow7 {W : World} (h : laidMetH Tryd.prog lst7 W) : Lib.TabIs Tryd.prog W "internal/strconv.uint64pow10" .u64 Lib.pow10Tab :=
  Lib.tabIs_of_head (zs := Lib.pow10Tab) (rest := restL) gPow gPowType Tryd.underlying116 Tryd.underlying95 cellsU64 cellsPow (lst7_met h).tail.tail

theorem gER : Tryd.prog.globalNamed "strconv.ErrRange" = some 3 := by kernel_rfl
theorem gES : Tryd.prog.globalNamed "strconv.ErrSyntax" = some 2 := by kernel_rfl
theorem gERType : (Tryd.prog.globals[3]?).map (·.type) = some 50 := by kernel_rfl
theorem gESType : (Tryd.prog.globals[2]?).map (·.type) = some 50 := by kernel_rfl
theorem cellsEs : Tryd.prog.cellsOf 135 = 1 := by kernel_rfl
theorem cellsSt : Tryd.prog.cellsOf 9 = 1 := by kernel_rfl
theorem starEs : "*" ++ "errors.errorString" = "*errors.errorString" := by decide
/-- The one type of that name. -/
theorem rowEs (u : TypeId) (h : Tryd.prog.typeName? 3 u = some "*errors.errorString") : u = 133 :=
  typeName_ptr_named (nm := "errors.errorString") (by rw [starEs]; kernel_rfl) (by kernel_rfl) (by decide) u (by rw [starEs]; exact h)
theorem errR {W : World} (h : laidMetH Tryd.prog lst7 W) : ∃ ev, W.cell? ⟨3, 0, none⟩ = some ev ∧ (ev = .nilIface ∨ ∃ te pe, ev = .iface te pe) := by
  obtain ⟨a0, s0, hv0, -, -, -⟩ := laid_sentinel (lst7_met h).tail.tail.tail.tail gER gERType Tryd.underlying50 rowEs Tryd.underlying133 Tryd.underlying135 rfl rfl Tryd.underlying9 cellsEs cellsSt
  exact ⟨_, by have h0 := World.var?_cell gER hv0 0; simpa using h0, .inr ⟨_, _, rfl⟩⟩
theorem errS {W : World} (h : laidMetH Tryd.prog lst7 W) : ∃ ev, W.cell? ⟨2, 0, none⟩ = some ev ∧ (ev = .nilIface ∨ ∃ te pe, ev = .iface te pe) := by
  obtain ⟨a0, s0, hv0, -, -, -⟩ := laid_sentinel (lst7_met h).tail.tail.tail.tail.tail gES gESType Tryd.underlying50 rowEs Tryd.underlying133 Tryd.underlying135 rfl rfl Tryd.underlying9 cellsEs cellsSt
  exact ⟨_, by have h0 := World.var?_cell gES hv0 0; simpa using h0, .inr ⟨_, _, rfl⟩⟩
set_option maxRecDepth 100000 in
theorem maxLenCell {W : World} (hS : W.ShapedOpen Tryd.prog) : ∃ m, W.cell? ⟨1, 0, none⟩ = some (.int .i64 m) := by
  obtain ⟨cs, hh, hs, hr⟩ := hS.1 1 #[.int .i64 0] 3 (of_decide_eq_true (by kernel_rfl)) (by kernel_rfl)
  obtain ⟨ts, hts, _, hall⟩ := hr (by kernel_rfl)
  rw [show Tryd.prog.cellTypes Tryd.prog.depth 3 = some [3] by kernel_rfl] at hts
  cases hts
  have h1 : 0 < cs.size := by rw [hs]; exact Nat.zero_lt_one
  clear hs hr hS
  obtain ⟨u, hu', hok⟩ := hall 0 cs[0] (Array.getElem?_eq_getElem h1)
  have hu : u = 3 := by
    have h2 : (some 3 : Option TypeId) = some u := hu'
    exact (Option.some.inj h2).symm
  subst hu
  have hcell : W.cell? ⟨1, 0, none⟩ = some cs[0] := by
    unfold World.cell?
    dsimp only
    rw [hh]
    exact Array.getElem?_eq_getElem h1
  rw [hcell]
  clear hall hh hcell hu'
  generalize cs[0] = v at hok
  unfold Cell.ok at hok
  rw [Tryd.underlying3] at hok
  cases v <;> first | (simp at hok; obtain ⟨rfl, _⟩ := hok; exact ⟨_, rfl⟩) | simp at hok
theorem lg_laid {W : World} (hS : W.ShapedOpen Tryd.prog) (h : laidMetH Tryd.prog lst7 W) : LG W := ⟨maxLenCell hS, errS h, errR h, tabPow7 h⟩

abbrev rangeS : ByteArray := { data := #[118, 97, 108, 117, 101, 32, 111, 117, 116, 32, 111, 102, 32, 114, 97, 110, 103, 101] }
abbrev syntaxS : ByteArray := { data := #[105, 110, 118, 97, 108, 105, 100, 32, 115, 121, 110, 116, 97, 120] }
noncomputable def low7 : Nat := (World.holding Tryd.prog default ⟨#[], #[], []⟩).heap.size
/-- A world that holds the variables. -/
noncomputable def laidWorld7 (os : Os) : World :=
  let w0 := World.holding Tryd.prog os ⟨#[.cells #[.string rangeS] 135, .cells #[.string syntaxS] 135], #[], []⟩
  { w0 with heap := layAt 3 [.iface 133 (.pointer (some ⟨low7, 0, none⟩))] (layAt 2 [.iface 133 (.pointer (some ⟨low7 + 1, 0, none⟩))]
      (layAt 6 (tabCells Rows.laid_math_bits_deBruijn32tab) (layAt 7 (tabCells Rows.laid_math_bits_deBruijn64tab) (layAt 0 (tabCells Rows.laid_internal_strconv_uint64pow10)
        (layAt 5 (tabCells Rows.laid_unicode_utf8_acceptRanges) (layAt 4 (tabCells Rows.laid_unicode_utf8_first) w0.heap)))))) }
set_option maxRecDepth 100000 in
theorem laid_met7 (os : Os) (args : Array Value) : laidMet Tryd.prog lst7 ((laidWorld7 os).forCall (fun _ _ => 0) ⟨#[], args, []⟩).memory :=
  laidMet_of_run' 8 (by kernel_rfl) (by kernel_rfl)
end Go.Proofs.YtoekemfgmdbnbaaDoor
