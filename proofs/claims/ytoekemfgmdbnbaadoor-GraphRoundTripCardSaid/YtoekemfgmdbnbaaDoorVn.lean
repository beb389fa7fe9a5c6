/- What graph.Essential returns for a valid graph. No further condition. -/
import Derived.Test.YtoekemfgmdbnbaaDoorVm
namespace Go.Proofs.YtoekemfgmdbnbaaDoor
open Go.RowKit
set_option linter.unusedSimpArgs false
set_option linter.unusedVariables false

theorem mems_iff {n : Nat} {f : Nat → Bool} {x : Int} : x ∈ mems n f ↔ ∃ i : Nat, x = (i : Int) ∧ i < n ∧ f i = true := by
  unfold mems
  rw [List.mem_map]
  constructor
  · rintro ⟨i, h, rfl⟩
    obtain ⟨h1, h2⟩ := List.mem_filter.1 h
    exact ⟨i, rfl, List.mem_range.1 h1, h2⟩
  · rintro ⟨i, rfl, h1, h2⟩
    exact ⟨i, List.mem_filter.2 ⟨List.mem_range.2 h1, h2⟩, rfl⟩
theorem mems_asc (n : Nat) (f : Nat → Bool) : (mems n f).Pairwise (· < ·) := by
  unfold mems
  rw [List.pairwise_map]
  refine (List.Pairwise.filter f List.pairwise_lt_range).imp ?_
  intro a b h
  omega
theorem mems_sg (n : Nat) (f : Nat → Bool) : SG (n : Int) (mems n f) := ⟨fun x hx => by obtain ⟨i, rfl, h, -⟩ := mems_iff.1 hx; omega, mems_asc n f⟩
theorem ints_over {W : World} {A b : Nat} {v : Value} {l : List Int} (h : IntsAt W A v l) (hb : b < A) (x y z : Value) {B : Nat} (hB : B ≤ A) : IntsAt (((W.setCell ⟨b, 0, none⟩ x).setCell ⟨b, 1, none⟩ y).setCell ⟨b, 2, none⟩ z) B v l :=
  own_low (ownsRow_setCell_below (ownsRow_setCell_below (ownsRow_setCell_below h (a := ⟨b, 0, none⟩) hb _) (a := ⟨b, 1, none⟩) hb _) (a := ⟨b, 2, none⟩) hb _) hB
/-- The essential part, and its states. -/
def EOut (w : World) (L : Int) (n : Nat) (es : List E3) (e : Ending) (w' : World) : Prop := ∃ f v u, Ess n es f ∧ e = .returned (.tuple #[grV L ((mems n f).length : Int) v, u, .int .i64 0]) ∧ EdgesAt w' w.heap.size v (partE (mems n f) es) ∧ IntsAt w' w.heap.size u (mems n f) ∧ Below w.heap.size w w'
set_option maxRecDepth 100000 in
set_option maxHeartbeats 3200000 in
theorem essential_good (L : Int) (n : Nat) (es : List E3) (v : Value) (w : World) (hrd : EdgesRd w v es) (hvg : VG L (n : Int) es) :
    Calls Tryd.prog 13 #[grV L (n : Int) v] w (EOut w L n es) := by
  have hn : n ≤ 64 := by have := hvg.s2; omega
  have HRD := Lib.hid hrd
  have hlen := hvg.len
  have HV := Lib.hid (fun W h => isValid_any L (n : Int) es v W h (by omega))
  have HX := Lib.hid (fun W h => essential_any L n es v W h hn hvg.ok hvg.len)
  have HP := Lib.hid (fun f vs W h h2 => part_any L n es v vs (mems n f) W h h2 hn hvg.ok hvg.len (mems_sg n f))
  have K0 := Lib.hid (KB.start w L (n : Int) v 24)
  have H0 := Lib.hid (show (chkG L (n : Int) es == 0) = true by rw [hvg.chk]; rfl)
  obtain ⟨a, c, rfl⟩ := hrd.form
  clear hrd hvg
  go_enter Tryd.func13, Tryd.ntmps13
  go_wp2_with (first
    | (go_at_call 15; (with_reducible refine (HV.out _ (HRD.out.keep K0.out.bel)).mono ?_); rintro e0 W1 ⟨rfl, b1⟩; (rw [H0.out]); (have K1 := Lib.hid (K0.out.keep b1)); (clear b1); (obtain ⟨⟨g1, g2, g3⟩, -⟩ := id K1.out))
    | (go_at_call 24; (with_reducible refine (HX.out _ (HRD.out.keep K1.out.bel)).mono ?_); rintro e0 W2 ⟨f, hf, v2, rfl, i2, b2⟩; (obtain ⟨a2, c2, rfl⟩ := i2.slice); (have K2 := Lib.hid (K1.out.keep b2)); (have HF := Lib.hid hf); (have I2 := Lib.hid i2); (have RD2 := Lib.hid i2.rd); (clear b2 hf i2); (obtain ⟨⟨g4, g5, g6⟩, -⟩ := id K2.out))
    | (go_at_call 25; (with_reducible refine (HP.out _ _ _ (HRD.out.keep K2.out.bel) RD2.out).mono ?_); rintro e0 W3 ⟨v3, rfl, o3, b3⟩; (obtain ⟨a3, c3, rfl⟩ := o3.slice); (have K3 := Lib.hid (K2.out.keep b3)); (have O3 := Lib.hid o3); (have I3 := Lib.hid (I2.out.keep b3)); (clear b3 o3); (obtain ⟨-, ⟨⟨r1, r2, r3⟩, r4, r5, r6⟩, -⟩ := id K3.out)))
  exact bodyPost_ret (v := .tuple #[grV L ((mems n f).length : Int) (.slice a3 (partE (mems n f) es).length c3), .slice a2 (mems n f).length c2, .int .i64 0]) (by simp [results, Tryd.results13, go_sem, r1, r2, r3]) rfl
    ⟨f, _, _, HF.out, rfl, edges_over O3.out (by have := K2.out.2.2.2; omega) _ _ _ (by have := K2.out.2.2.2; omega), ints_over I3.out (by have := K1.out.2.2.2; omega) _ _ _ (by have := K1.out.2.2.2; omega), below_over K3.out.2.2.1 (Nat.le_succ _) _ _ _⟩
end Go.Proofs.YtoekemfgmdbnbaaDoor
