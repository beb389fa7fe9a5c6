/- What the closure of runs.Join and runs.together return: the letters of runs, in a row. Condition: runs of letters, of 1 to 1000 letters each, up to 1000 in all. -/
import Derived.Test.YtokpfbbhkmlclaaDoorUy1
import Derived.Test.YtokpfbbhkmlclaaDoorUs
import Derived.Test.YtokpfbbhkmlclaaDoorUr
import Derived.Deep.DeepCutAuto
namespace Go.Proofs.YtokpfbbhkmlclaaDoor
open Go.RowKit
set_option linter.unusedSimpArgs false
set_option linter.unusedVariables false

set_option maxRecDepth 100000 in
set_option maxHeartbeats 3200000 in
theorem joinF_any (d n : Nat) (w : World) (hd : d < 16) (h1 : 1 ≤ n) (h2 : n ≤ 1000) :
    Calls Tryd.prog 41 #[.agg #[.int .i64 (d : Int), .int .i64 (n : Int)]] w fun e w' => ∃ g, e = .returned (.slice (some ⟨g, 0, none⟩) n n) ∧ BRow w' g (List.replicate n (lt d)) ∧ Below w.heap.size w w' := by
  have hix : ∀ w, (Instr.index 9 (.string ⟨#[48, 49, 50, 51, 52, 53, 54, 55, 56, 57, 97, 98, 99, 100, 101, 102]⟩) (.int .i64 (d : Int))).run Tryd.prog w = .ok (.int .u8 ((lt d).toNat : Int)) w :=
    run_at_bytes lets d (lt d) (by rw [List.getElem?_eq_getElem (show d < 16 by omega), lt_at (show d < 16 by omega)]) (d : Int) rfl
  have HR := Lib.hid (fun b cap W hc => repeat_any (lt d) n b cap W h1 h2 hc)
  obtain ⟨c, hc⟩ : ∃ c, lt d = c := ⟨_, rfl⟩
  rw [hc] at hix HR ⊢
  have hcl := c.toNat_lt
  clear hc
  have x1 : (w.alloc (.cells #[.int .i64 (d : Int), .int .i64 (n : Int)] 45)).cell? ⟨w.heap.size, 0, none⟩ = some (.int .i64 (d : Int)) := by simp [go_sem]
  have x2 : (w.alloc (.cells #[.int .i64 (d : Int), .int .i64 (n : Int)] 45)).cell? ⟨w.heap.size, 1, none⟩ = some (.int .i64 (n : Int)) := by simp [go_sem]
  have hb0 := below1 w (.cells #[.int .i64 (d : Int), .int .i64 (n : Int)] 45)
  have hsz : (w.alloc (.cells #[.int .i64 (d : Int), .int .i64 (n : Int)] 45)).heap.size = w.heap.size + 1 := World.size_alloc _ _
  go_enter Tryd.func41, Tryd.ntmps41
  go_upto_region 1 with fail
  generalize w.alloc (.cells #[.int .i64 (d : Int), .int .i64 (n : Int)] 45) = W at *
  generalize hpw : w.heap.size = p at *
  have HX := Lib.hid (show W.drew.cell? ⟨p, 0, none⟩ = some (.int .i64 (d : Int)) ∧ W.drew.cell? ⟨p, 1, none⟩ = some (.int .i64 (n : Int)) from ⟨x1, x2⟩)
  have HXA := Lib.hid (fun o => show (W.alloc o).drew.cell? ⟨p, 0, none⟩ = some (.int .i64 (d : Int)) ∧ (W.alloc o).drew.cell? ⟨p, 1, none⟩ = some (.int .i64 (n : Int)) from ⟨cell_keep x1 (below1 W o).drew, cell_keep x2 (below1 W o).drew⟩)
  have HB := Lib.hid hb0
  have hcn : (W.alloc (.cells #[.int .u8 (c.toNat : Int)] 5)).drew.cell? ⟨W.heap.size, 0, none⟩ = some (.int .u8 (c.toNat : Int)) := by simp [go_sem]
  rw [hsz] at hcn
  have HCN := Lib.hid hcn
  clear x1 x2 hb0 hcn
  go_region_held3 (fun V => V.cell? ⟨p, 0, none⟩ = some (.int .i64 (d : Int)) ∧ V.cell? ⟨p, 1, none⟩ = some (.int .i64 (n : Int)))
    (first | with_reducible exact HX.out | with_reducible exact (HXA.out _) | with_reducible exact HX3.out)
    (first | (go_at_call 42; (with_reducible refine (HR.out _ _ _ HCN.out).mono ?_); rintro e W3 ⟨rfl, hrow, hb3⟩; (have HX3 := Lib.hid (And.intro (cell_keep (HXA.out _).1 hb3) (cell_keep (HXA.out _).2 hb3)))))
  all_goals
    have e : (W.alloc (.cells #[.int .u8 (c.toNat : Int)] 5)).drew.heap.size = p + 1 + 1 := by
      show (W.alloc _).heap.size = _
      rw [World.size_alloc, hsz]
    have hrow2 : BRow W3 (p + 1 + 1) (List.replicate n c) := by rw [← e]; exact hrow
    have hb4 := below_more (HB.out.alloc (by rw [hsz]; exact Nat.le_succ _) (.cells #[.int .u8 (c.toNat : Int)] 5)).drew (Nat.le_of_eq hpw.symm) hb3
    go_wp2
    go_ret
    exact ⟨_, rfl, hrow2, by rw [hpw]; exact hb4⟩
theorem infoU8 : (Tryd.prog.info? 5).map (fun i => (i.zero, i.size, i.bytes)) = some (some (.int .u8 0), 1, 1) := by kernel_rfl
/-- Bytes, as values. -/
def bcl (l : List UInt8) : List Value := l.map fun c => .int .u8 (c.toNat : Int)
theorem bcl_len (l : List UInt8) : (bcl l).length = l.length := List.length_map _
theorem bcl_append (l m : List UInt8) : bcl (l ++ m) = bcl l ++ bcl m := List.map_append
theorem bcl_row {W : World} {g : Nat} {l : List UInt8} (h : BRow W g l) : ∀ (j : Nat) u, (bcl l)[j]? = some u → W.cell? ((⟨g, 0, none⟩ : Addr).add j) = some u := fun j u hj => by
  unfold bcl at hj
  rw [List.getElem?_map] at hj
  obtain ⟨x, hx, rfl⟩ := Option.map_eq_some_iff.1 hj
  rw [add_plain, Nat.zero_add]
  exact (h j x hx).1
theorem own_brow {W : World} {B g c : Nat} {l : List UInt8} (h : W.ownsRow B 5 1 (.slice (some ⟨g, 0, none⟩) l.length c) l.length (bcl l)) : BRow W g l := fun j x hx => by
  have hj := (List.getElem?_eq_some_iff.1 hx).1
  refine ⟨?_, h.frozenAt j⟩
  rw [h.cellAt j (by omega)]
  unfold bcl
  rw [List.getElem?_map, hx]; rfl
/-- A list of runs of letters. -/
def Good (rs : List (Int × Int)) : Prop := ∀ p ∈ rs, 0 ≤ p.1 ∧ p.1 < 16 ∧ 1 ≤ p.2 ∧ p.2 ≤ 1000
theorem joinL_next {rs : List (Int × Int)} {i : Nat} {p : Int × Int} (h : rs[i]? = some p) : joinL (rs.take (i + 1)) = joinL (rs.take i) ++ List.replicate p.2.toNat (lt p.1.toNat) := by
  rw [List.take_add_one, h, Option.toList, joinL_append, joinL_one]
theorem joinL_le (rs : List (Int × Int)) (i : Nat) : (joinL (rs.take i)).length ≤ (joinL rs).length := by
  have h : joinL rs = joinL (rs.take i) ++ joinL (rs.drop i) := by rw [← joinL_append, List.take_append_drop]
  rw [h, List.length_append]; exact Nat.le_add_right _ _
set_option maxRecDepth 100000 in
set_option maxHeartbeats 6400000 in
theorem together_any (rs : List (Int × Int)) (v : Value) (w : World) (hrd : RunsRd w v rs) (hg : Good rs) (hl : rs.length ≤ 1000) (hj : (joinL rs).length ≤ 100000) :
    Calls Tryd.prog 40 #[v, .func (.func 41) #[] #[]] w fun e w' => ∃ A c, e = .returned (.slice A (joinL rs).length c) ∧ w'.ownsRow w.heap.size 5 1 (.slice A (joinL rs).length c) (joinL rs).length (bcl (joinL rs)) ∧ Below w.heap.size w w' := by
  obtain ⟨i0, hi, hz0, hz1, hz2⟩ := info_parts infoU8
  obtain ⟨A, c0, rfl, hr⟩ := hrd
  have HR := Lib.hid hr
  have HG := Lib.hid hg
  have HLE := Lib.hid (joinL_le rs)
  obtain ⟨J, hJ⟩ : ∃ J, joinL rs = J := ⟨_, rfl⟩
  have HJ := Lib.hid hJ
  rw [hJ] at hj HLE ⊢
  clear hr hg hJ
  go_enter Tryd.func40, Tryd.ntmps40
  go_wp2_with fail
  go_loopg [5, 10] rs.length (fun q s5 s10 wx => ∃ (i : Nat) (U : List UInt8), i + q = rs.length ∧ s10 = .int .i64 (i : Int) ∧ Hid (joinL (rs.take i) = U) ∧ wx.ownsRow w.heap.size 5 1 s5 U.length (bcl U) ∧ Below w.heap.size w wx)
  case atStart => exact ⟨0, [], by omega, rfl, Lib.hid rfl, World.ownsRow_nil _ _ _ _, Below.refl _ _⟩
  case round =>
    obtain ⟨i, U, hin, rfl, HU, hown, hb⟩ := hrel
    obtain ⟨a5, c5, rfl⟩ := own_slice hown
    rcases gk with _ | q
    · obtain rfl : i = rs.length := by omega
      have e : U = J := by rw [← HJ.out, ← HU.out, List.take_length]
      subst e
      clear HU
      go_wp2
      go_ret
      exact ⟨_, _, rfl, hown, hb⟩
    · have hil : i < rs.length := by omega
      obtain ⟨p, hp⟩ : ∃ p, rs[i]? = some p := ⟨_, List.getElem?_eq_getElem hil⟩
      obtain ⟨b, o, rfl, x1, x2⟩ := HR.out i p hp
      obtain ⟨p1, p2, p3, p4⟩ := HG.out p (List.mem_of_getElem? hp)
      have hnx := joinL_next hp
      have hle := HLE.out (i + 1)
      obtain ⟨u, y⟩ := p
      dsimp only at x1 x2 p1 p2 p3 p4 hnx
      obtain ⟨d, rfl⟩ : ∃ d : Nat, u = (d : Int) := ⟨u.toNat, by omega⟩
      obtain ⟨n, rfl⟩ : ∃ n : Nat, y = (n : Int) := ⟨y.toNat, by omega⟩
      rw [Int.toNat_natCast, Int.toNat_natCast, HU.out] at hnx
      have HF := Lib.hid (fun W => joinF_any d n W (by omega) (by omega) (by omega))
      have X1 := cell_keep x1 hb
      have X2 := cell_keep x2 hb
      have j2 : (i : Int) < (rs.length : Int) := by omega
      obtain ⟨R, hR⟩ : ∃ R, List.replicate n (lt d) = R := ⟨_, rfl⟩
      have hRl : R.length = n := by rw [← hR, List.length_replicate]
      rw [hR] at hnx
      simp only [hR] at HF
      rw [hnx, List.length_append] at hle
      have HN := Lib.hid hnx
      have hown0 := hown.alloc (.cells #[.int .i64 (d : Int), .int .i64 (n : Int)] 45)
      have hb0 := hb.alloc hb.size (.cells #[.int .i64 (d : Int), .int .i64 (n : Int)] 45)
      clear hp x1 x2 hR hnx HU
      go_wp2_with (first
        | (go_at_call 41; (with_reducible refine (HF.out _).mono ?_); rintro e W1 ⟨g1, rfl, hrow, b1⟩; (have hown1 := hown0.kept (grown_none b1) (by cases (Value.slice a5 U.length c5).ownBlock <;> simp)); (have hlt1 := hown1.lt); (have hbw1 := below_more hb0 (Nat.le_refl _) b1); (have hbs := hbw1.size))
        | (at_builtin; refine wpList_append_own_at _ rfl _ _ 53 rfl w.heap.size 5 i0 (.int .u8 0) 1 1 Tryd.underlying53 hi hz0 hz1 hz2 rfl (by decide) _ _ _ rfl hown1 ⟨g1, 0, none⟩ n n (bcl R) rfl ?c0 (bcl_row hrow) ?c2 ?c3 ?c4 ?c5 ?_))
      case c0 => rw [bcl_len, hRl, Nat.mul_one]
      case c2 =>
        intro u hu
        obtain ⟨x, -, rfl⟩ := List.mem_map.1 hu
        rfl
      case c3 => unfold maxLen; omega
      case c4 => omega
      case c5 => exact hbs
      intro v' W2 hown2 hgrow _ hv'
      have hb2 : Below w.heap.size w W2 := hbw1.grown hgrow hbs (fun k hk => (hlt1 k hk).1)
      rw [← bcl_append] at hown2
      have hown3 : W2.ownsRow w.heap.size 5 1 v' (U ++ R).length (bcl (U ++ R)) := by rw [List.length_append, hRl]; exact hown2
      clear hown hown0 hown1 hown2 hgrow hlt1 hv' hb hb0 hbw1 hrow X1 X2
      go_wp2
      go_roundg q
      case measure => omega
      case rel => exact ⟨i + 1, U ++ R, by omega, by go_num, HN, hown3, hb2⟩
end Go.Proofs.YtokpfbbhkmlclaaDoor
