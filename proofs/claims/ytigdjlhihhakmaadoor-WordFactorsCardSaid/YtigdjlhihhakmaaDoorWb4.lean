/- WordReversed returns true for every input. -/
import Derived.Test.YtigdjlhihhakmaaDoorWb3
import Derived.Test.YtigdjlhihhakmaaDoorWv
namespace Go.Proofs.YtigdjlhihhakmaaDoor
open Go.RowKit
set_option linter.unusedSimpArgs false
set_option linter.unusedVariables false

/-- What Root returns, for every string. -/
theorem root_any (l : List UInt8) (w : World) (hl : l.length ≤ 1000000) :
    Calls Tryd.prog 20 #[.string ⟨l.toArray⟩] w fun e w' => e = .returned (.tuple #[.string ⟨(rootL l).toArray⟩, .int .i64 (rootN l : Int)]) ∧ Below w.heap.size w w' := by
  by_cases h : l = []
  · subst h
    refine (root_empty w).mono ?_
    rintro e w' ⟨rfl, rfl⟩
    exact ⟨rfl, Below.refl _ _⟩
  · exact root_some l w hl h
theorem rootL_length (l : List UInt8) : (rootL l).length = min (rlen l) l.length := by unfold rootL; rw [List.length_take]
theorem zl_at {l : List Nat} {i x : Nat} (h : l[i]? = some x) : (zl l).getD i 0 = (x : Int) := by
  unfold zl
  rw [List.getD_eq_getElem?_getD, List.getElem?_map, h]; rfl
theorem NumsAt.row {W : World} {B : Nat} {v : Value} {l : List Nat} (h : NumsAt W B v l) (h0 : 0 < l.length) : ∃ g c, v = .slice (some ⟨g, 0, none⟩) l.length c := by
  obtain ⟨g, c, hv, _⟩ := World.ownsRow.form h h0
  exact ⟨g, c, hv⟩
theorem NumsAt.get {W : World} {B g c i x : Nat} {l : List Nat} (h : NumsAt W B (.slice (some ⟨g, 0, none⟩) l.length c) l) (hx : l[i]? = some x) : W.cell? ⟨g, i, none⟩ = some (.int .i64 (x : Int)) := by
  have hi : i < l.length := (List.getElem?_eq_some_iff.1 hx).1
  rw [World.ownsRow.cellAt h i (by omega), zl_getD l i hi, zl_at hx]
theorem NumsAt.addr {W : World} {B c : Nat} {a : Option Addr} {l : List Nat} (h : NumsAt W B (.slice a l.length c) l) (h0 : 0 < l.length) : ∃ g, a = some ⟨g, 0, none⟩ := by
  obtain ⟨g, c', hv⟩ := h.row h0
  injection hv with h1
  exact ⟨g, h1⟩
theorem turned_at {L M : List Nat} {f : Nat → Nat} {i x : Nat} (h : M = (L.map f).reverse) (hx : L[i]? = some x) : M[L.length - 1 - i]? = some (f x) := by
  have hi := (List.getElem?_eq_some_iff.1 hx).1
  rw [h, List.getElem?_reverse (by rw [List.length_map]; omega), List.length_map, List.getElem?_map, show L.length - 1 - (L.length - 1 - i) = i by omega, hx]; rfl
set_option maxRecDepth 100000 in
set_option maxHeartbeats 6400000 in
theorem wordReversed_main (l u : List UInt8) (w : World) (hl : l.length ≤ 40) (hu : u.length ≤ 40) :
    Calls Tryd.prog 9 #[.string ⟨l.toArray⟩, .string ⟨u.toArray⟩] w fun e w' => e = .returned (.bool true) ∧ Below w.heap.size w w' := by
  have hd1 : decide ((40 : Int) < (l.length : Int)) = false := decide_eq_false (by omega)
  have hd2 : decide ((40 : Int) < (u.length : Int)) = false := decide_eq_false (by omega)
  have HV := Lib.hid (fun W => reverse_any l W (by omega))
  have HVu := Lib.hid (fun W => reverse_any u W (by omega))
  have HVv := Lib.hid (fun W => reverse_any l.reverse W (by rw [List.length_reverse]; omega))
  have HR := Lib.hid (fun W => root_any l W (by omega))
  have HRv := Lib.hid (fun W => root_any l.reverse W (by rw [List.length_reverse]; omega))
  have HB := Lib.hid (fun W => border_any l W (by omega))
  have HBv := Lib.hid (fun W => border_any l.reverse W (by rw [List.length_reverse]; omega))
  have HF := Lib.hid (fun W => find_any l u W (by omega) (by omega))
  have HFv := Lib.hid (fun W => find_any l.reverse u.reverse W (by rw [List.length_reverse]; omega) (by rw [List.length_reverse]; omega))
  have hvl : l.reverse.length = l.length := List.length_reverse
  have hvv : l.reverse.reverse = l := List.reverse_reverse l
  have hbr := bord_rev l
  have hnr := rootN_rev l
  have hrl : (rootL l.reverse).length = (rootL l).length := by rw [rootL_length, rootL_length, rlen_rev, hvl]
  have hocc := occ_rev l u
  have hrs := occ_len l u
  have hle : ∀ i ∈ occ l u, i + u.length ≤ l.length := fun i hi => occ_le hi
  have hlb := inc_bound (l.length + 1) (occ_sorted l u) (fun x hx => by have := occ_le hx; omega)
  have hra : (rootL l).length ≤ l.length := by rw [rootL_length]; exact Nat.min_le_right _ _
  obtain ⟨P, hP⟩ : ∃ P, l ++ u = P := ⟨_, rfl⟩
  have hPl : P.length ≤ 80 := by rw [← hP, List.length_append]; omega
  have HVP := Lib.hid (fun W => reverse_any P W (by omega))
  have hPr : P.reverse = u.reverse ++ l.reverse := by rw [← hP, List.reverse_append]
  have hs1 : ∀ w, (Op.stringOp .add ⟨l.toArray⟩ ⟨u.toArray⟩).run Tryd.prog w = .ok (.string ⟨P.toArray⟩) w := fun w => by rw [← hP]; exact run_string_add_lists w l u (by omega) (by omega)
  have hul : u.reverse.length = u.length := List.length_reverse
  obtain ⟨L, hL⟩ : ∃ L, occ l u = L := ⟨_, rfl⟩
  obtain ⟨M, hM⟩ : ∃ M, occ l.reverse u.reverse = M := ⟨_, rfl⟩
  rw [hL, hM] at hocc
  simp only [hL] at HF
  simp only [hM] at HFv
  rw [hL] at hle hlb
  have hML : M.length = L.length := by rw [hocc, List.length_reverse, List.length_map]
  obtain ⟨v, hv⟩ : ∃ v, l.reverse = v := ⟨_, rfl⟩
  obtain ⟨z, hz⟩ : ∃ z, u.reverse = z := ⟨_, rfl⟩
  obtain ⟨Q, hQ⟩ : ∃ Q, P.reverse = Q := ⟨_, rfl⟩
  obtain ⟨a, ha⟩ : ∃ a, rootL l = a := ⟨_, rfl⟩
  obtain ⟨m, hm⟩ : ∃ m, rootN l = m := ⟨_, rfl⟩
  obtain ⟨bb, hbb⟩ : ∃ b, bord l = b := ⟨_, rfl⟩
  simp only [hv] at HV HVv HRv HBv HFv
  rw [hv] at hvl hvv hbr hnr hrl hPr
  simp only [hvv] at HVv
  obtain ⟨b, hb⟩ : ∃ b, rootL v = b := ⟨_, rfl⟩
  simp only [hz] at HVu HFv
  simp only [hQ] at HVP
  simp only [ha, hm] at HR
  simp only [hnr, hb, hm] at HRv
  simp only [hbr, hbb] at HBv
  simp only [hbb] at HB
  rw [ha] at hra hrl
  rw [hb] at hrl
  rw [hz] at hPr hul
  rw [hQ] at hPr
  have hs2 : ∀ w, (Op.stringOp .add ⟨z.toArray⟩ ⟨v.toArray⟩).run Tryd.prog w = .ok (.string ⟨Q.toArray⟩) w := fun w => by rw [hPr]; exact run_string_add_lists w z v (by omega) (by omega)
  have e1 : (l == l) = true := by simp
  have e2 : (Q == Q) = true := by simp
  have e3 : ((l.length : Int) == (l.length : Int)) = true := by simp
  have e4 : ((bb : Int) == (bb : Int)) = true := by simp
  have e5 : ((m : Int) == (m : Int)) = true := by simp
  have e6 : ((a.length : Int) == (a.length : Int)) = true := by simp
  have e7 : ((L.length : Int) == (L.length : Int)) = true := by simp
  have HO := Lib.hid hocc
  have HLE := Lib.hid hle
  clear hocc hle hP hL hM hv hz hQ ha hm hbb hb hvv hbr hnr hPr
  go_enter Tryd.func9, Tryd.ntmps9
  go_wp2_with (first
    | (go_at_call 29; first
        | ((with_reducible refine (HV.out _).mono ?_); rintro e W1 ⟨rfl, b1⟩)
        | ((with_reducible refine (HVv.out _).mono ?_); rintro e W4 ⟨rfl, b4⟩)
        | ((with_reducible refine (HVu.out _).mono ?_); rintro e W8 ⟨rfl, b8⟩; (have HN8 := Lib.hid (HN7.out.keep b8))))
    | (go_at_call 20; first
        | ((with_reducible refine (HR.out _).mono ?_); rintro e W2 ⟨rfl, b2⟩)
        | ((with_reducible refine (HRv.out _).mono ?_); rintro e W3 ⟨rfl, b3⟩))
    | (go_at_call 25; first
        | ((with_reducible refine (HBv.out _).mono ?_); rintro e W5 ⟨rfl, b5⟩)
        | ((with_reducible refine (HB.out _).mono ?_); rintro e W6 ⟨rfl, b6⟩))
    | (go_at_call 23; first
        | ((with_reducible refine (HF.out _).mono ?_); rintro e W7 ⟨v7, rfl, hN7, b7⟩; (obtain ⟨a7, c7, rfl⟩ := NumsAt.slice hN7); (have HN7 := Lib.hid (show NumsAt W7 W6.heap.size (.slice a7 L.length c7) L from hN7)); (clear hN7))
        | ((with_reducible refine (HFv.out _).mono ?_); rintro e W9 ⟨v9, rfl, hM9, b9⟩; (obtain ⟨a9, c9, rfl⟩ := NumsAt.slice hM9); (have HM9 := Lib.hid (show NumsAt W9 W8.heap.size (.slice a9 M.length c9) M from hM9)); (rw [hML]); (have HN9 := Lib.hid (HN8.out.keep b9)); (clear hM9))))
  have B9 := below_more (below_more (below_more (below_more (below_more (below_more (below_more (below_more b1 (Nat.le_refl _) b2) (Nat.le_refl _) b3) (Nat.le_refl _) b4) (Nat.le_refl _) b5) (Nat.le_refl _) b6) (Nat.le_refl _) b7) (Nat.le_refl _) b8) (Nat.le_refl _) b9
  clear b1 b2 b3 b4 b5 b6 b7 b8 b9 HN7 HN8
  go_loopg [79] L.length (fun q s79 wx => wx = W9 ∧ ∃ i : Nat, i + q = L.length ∧ s79 = .int .i64 (i : Int))
  case atStart => exact ⟨rfl, 0, by omega, rfl⟩
  case round =>
    obtain ⟨rfl, i, hi, rfl⟩ := hrel
    rcases gk with _ | g
    · obtain rfl : i = L.length := by omega
      go_wp2_with (first
        | (go_at_call 29; first
          | ((with_reducible refine (HVP.out _).mono ?_); rintro e W1 ⟨rfl, b1⟩)
          | ((with_reducible refine (HVu.out _).mono ?_); rintro e W2 ⟨rfl, b2⟩))
        | (go_at_call 12; (with_reducible refine (awake_any _).mono ?_); rintro e W3 ⟨rfl, b3⟩))
      go_ret
      exact ⟨rfl, below_more (below_more (below_more B9 (Nat.le_refl _) b1) (Nat.le_refl _) b2) (Nat.le_refl _) b3⟩
    · have hil : i < L.length := by omega
      obtain ⟨x, hx⟩ : ∃ x, L[i]? = some x := ⟨_, List.getElem?_eq_getElem hil⟩
      obtain ⟨g7, rfl⟩ := HN9.out.addr (by omega)
      obtain ⟨g9, rfl⟩ := NumsAt.addr HM9.out (by omega)
      have c1 := HN9.out.get hx
      have hy := turned_at HO.out hx
      have c2 := HM9.out.get hy
      have hxl := HLE.out x (List.mem_of_getElem? hx)
      obtain ⟨y, Hy⟩ : ∃ y : Nat, Hid (l.length - u.length - x = y) := ⟨_, Lib.hid rfl⟩
      rw [Hy.out] at c2
      have hyy : (l.length : Int) - (u.length : Int) - (x : Int) = (y : Int) := by have := Hy.out; omega
      obtain ⟨j, Hj⟩ : ∃ j : Nat, Hid (L.length - 1 - i = j) := ⟨_, Lib.hid rfl⟩
      rw [Hj.out] at c2
      have hjj : (L.length : Int) - 1 - (i : Int) = (j : Int) := by have := Hj.out; omega
      have hjl : j < L.length := by have := Hj.out; omega
      have e8 : ((y : Int) == (y : Int)) = true := by simp
      clear hx hy
      go_wp2_with fail
      go_roundg g
      case measure => omega
      case rel => exact ⟨rfl, i + 1, by omega, by go_num⟩
set_option maxRecDepth 100000 in
set_option maxHeartbeats 6400000 in
theorem wordReversed_any (l u : List UInt8) (w : World) (hl : l.length ≤ 9223372036854775807) (hu : u.length ≤ 9223372036854775807) :
    Calls Tryd.prog 9 #[.string ⟨l.toArray⟩, .string ⟨u.toArray⟩] w fun e w' => e = .returned (.bool true) ∧ Below w.heap.size w w' := by
  rcases (show 40 < l.length ∨ (l.length ≤ 40 ∧ 40 < u.length) ∨ (l.length ≤ 40 ∧ u.length ≤ 40) by omega) with a | ⟨a, b⟩ | ⟨a, b⟩
  case inr.inr => exact wordReversed_main l u w a b
  all_goals
    go_enter Tryd.func9, Tryd.ntmps9
    go_wp2_with (go_at_call 12; (with_reducible refine (awake_any _).mono ?_); rintro e W7 ⟨rfl, b7⟩)
    go_ret
    exact ⟨rfl, b7⟩
end Go.Proofs.YtigdjlhihhakmaaDoor
