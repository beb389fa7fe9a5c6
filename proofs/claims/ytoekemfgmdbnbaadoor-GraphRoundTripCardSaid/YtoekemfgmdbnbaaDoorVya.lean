/- For graph.Parse: what the library's variables hold (LG), Atoi and Itoa at what Parse hands them. Condition: the table of powers and the variables ErrSyntax, ErrRange, MaxLen read as listed (blocks 1, 2, 3: as the shelf's contracts number them in this seat). -/
import Derived.Test.YtoekemfgmdbnbaaDoorVrb
import Derived.Test.YtoekemfgmdbnbaaDoorVf
import Derived.Test.YtoekemfgmdbnbaaDoorShelf
import Derived.Lib.AtoiErrMem
import Derived.Lib.AppendIntMem
namespace Go.Proofs.YtoekemfgmdbnbaaDoor
open Go.RowKit
set_option linter.unusedSimpArgs false
set_option linter.unusedVariables false

theorem tab_keepG {w w' : World} {name : String} {k : IntKind} {zs : List Int} (h : Lib.TabIs Tryd.prog w name k zs) (hb : Below w.heap.size w w') : Lib.TabIs Tryd.prog w' name k zs := by
  unfold Lib.TabIs World.var? at h ⊢
  cases hg : Tryd.prog.globalNamed name with
  | none => rw [hg] at h; cases h
  | some g =>
    rw [hg] at h
    simp only [Option.bind_some] at h ⊢
    rw [hb.block g (by
      rcases Nat.lt_or_ge g w.heap.size with h' | h'
      · exact h'
      · rw [Array.getElem?_eq_none h'] at h; cases h)]
    exact h
/-- What the library's variables hold. -/
structure LG (W : World) : Prop where
  m : ∃ m, W.cell? ⟨1, 0, none⟩ = some (.int .i64 m)
  s : ∃ ev, W.cell? ⟨2, 0, none⟩ = some ev ∧ (ev = .nilIface ∨ ∃ te pe, ev = .iface te pe)
  r : ∃ ev, W.cell? ⟨3, 0, none⟩ = some ev ∧ (ev = .nilIface ∨ ∃ te pe, ev = .iface te pe)
  t : Lib.TabIs Tryd.prog W "internal/strconv.uint64pow10" .u64 Lib.pow10Tab
theorem LG.keep {W W' : World} (h : LG W) (hb : Below W.heap.size W W') : LG W' := by
  obtain ⟨⟨m, h1⟩, ⟨e2, h2, h3⟩, ⟨e4, h4, h5⟩, h6⟩ := h
  exact ⟨⟨m, cell_keep h1 hb⟩, ⟨e2, cell_keep h2 hb, h3⟩, ⟨e4, cell_keep h4 hb, h5⟩, tab_keepG h6 hb⟩
theorem itoa_lg (u : Nat) (hu : u < 1000000000) (w : World) (h : LG w) :
    Calls Tryd.prog 28 #[.int .i64 (u : Int)] w fun e w' => e = .returned (.string ⟨(Lib.decDigits u).toArray⟩) ∧ Below w.heap.size w w' := by
  refine (Tryd.strconv_Itoa (u : Int) (by omega) (by omega) w h.t).mono ?_
  rintro e w' ⟨he, k, os, hw⟩
  rw [Lib.itoa_nonneg] at he
  exact ⟨he, by rw [hw]; exact Lib.below_grow _ w (Nat.le_refl _) k os⟩
/-- How Atoi ends: a number and no error, or an error, where there is no number. -/
def AtE (p : List UInt8) (z : Int) (ev : Value) : Prop := (ev = .nilIface ∧ Lib.atoiAll p = .ok z) ∨ ((∃ t N, ev = .iface t (.pointer (some ⟨N, 0, none⟩))) ∧ ∀ v, Lib.atoiAll p ≠ .ok v)
theorem atoi_lg (p : List UInt8) (hp : p.length ≤ 1000000) (w : World) (h : LG w) :
    Calls Tryd.prog 44 #[.string ⟨p.toArray⟩] w fun e w' => ∃ (z : Int) (ev : Value), e = .returned (.tuple #[.int .i64 z, ev]) ∧ AtE p z ev ∧ Below w.heap.size w w' := by
  have hs : (⟨p.toArray⟩ : ByteArray).size = p.length := rfl
  obtain ⟨-, ⟨e2, h2, h3⟩, ⟨e4, h4, h5⟩, -⟩ := h
  by_cases h1 : ∃ v, Lib.atoiAll p = .ok v
  · obtain ⟨v, hv⟩ := h1
    refine (Tryd.strconv_Atoi_ok ⟨p.toArray⟩ (by rw [hs]; omega) v hv w).mono ?_
    rintro e w' ⟨he, hw⟩
    refine ⟨v, .nilIface, he, .inl ⟨rfl, hv⟩, ?_⟩
    rcases hw with rfl | ⟨t, rfl⟩
    · exact Below.refl _ _
    · exact Lib.bytesWorld_below _ _ _
  · have hn : ∀ v, Lib.atoiAll p ≠ .ok v := fun v hv => h1 ⟨v, hv⟩
    by_cases hr : Lib.atoiAll p = .range
    · refine (Tryd.strconv_Atoi_range ⟨p.toArray⟩ (by rw [hs]; omega) hr e4 w h4 h5).mono ?_
      rintro e w' ⟨N, he, -, -, hb⟩
      exact ⟨_, _, he, .inr ⟨⟨_, N, rfl⟩, hn⟩, hb⟩
    · refine (Tryd.strconv_Atoi_syntax ⟨p.toArray⟩ (by rw [hs]; omega) hn hr e2 w h2 h3).mono ?_
      rintro e w' ⟨N, he, -, -, hb⟩
      exact ⟨_, _, he, .inr ⟨⟨_, N, rfl⟩, hn⟩, hb⟩
/-- The decimal numeral of a number below a thousand millions. -/
def NumP (p : List UInt8) : Prop := ∃ u : Nat, u < 1000000000 ∧ p = Lib.decDigits u
theorem not_num_err {p : List UInt8} (h : ∀ v, Lib.atoiAll p ≠ .ok v) : ¬ NumP p := by
  rintro ⟨u, hu, rfl⟩
  exact h _ (atoi_dec hu)
theorem num_at {p : List UInt8} {z : Int} (h : Lib.atoiAll p = .ok z) (hp : NumP p) : 0 ≤ z ∧ z ≤ 999999999 ∧ p = Lib.decDigits z.toNat := by
  obtain ⟨u, hu, rfl⟩ := hp
  rw [atoi_dec hu] at h
  injection h with h
  subst h
  exact ⟨by omega, by omega, by simp⟩
end Go.Proofs.YtoekemfgmdbnbaaDoor
