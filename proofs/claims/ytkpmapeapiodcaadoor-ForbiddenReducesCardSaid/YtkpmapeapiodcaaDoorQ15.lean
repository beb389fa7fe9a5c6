/- What grooveref14.Great, strings.Contains, slices.Contains and slices.ContainsFunc with the functions of ForbiddenReduces return. Conditions: the words can be read; lengths are those of strings and slices; the library's MaxLen is there. What the laws' rows and cards share: the tables, a world that holds them, and integers among the arguments. No condition. -/
import Derived.Test.YtkpmapeapiodcaaDoorQ14
import Derived.Test.YtkpmapeapiodcaaDoorCards
import Derived.Test.YtkpmapeapiodcaaDoorTie
import Derived.WalkKit
import Derived.ProofKit
import Derived.OpenShut
import Derived.Deep.DeepHandedRow
import Derived.Lib.LaidTab
import Derived.Lib.ItoaNum
import Derived.Stop.LaidErr
import Derived.Below
import Derived.Lib.SmallJoins

namespace Go.Proofs.YtkpmapeapiodcaaDoor
open Go.RowKit Go.Shelf
set_option linter.unusedSimpArgs false
set_option linter.unusedVariables false

theorem contains_fac (x u : Wd) : Lib.contains x u = facB x u := by
  rw [Bool.eq_iff_iff, facB_iff]
  unfold Lib.contains
  rw [decide_eq_true_iff]
  rcases Lib.index_spec x u with ⟨h1, h2⟩ | ⟨i, h1, h2, h3, -⟩
  · rw [h1]
    constructor
    · intro h; omega
    · rintro ⟨s, t, rfl⟩
      have h3 := h2 s.length (by rw [List.length_append, List.length_append]; omega)
      unfold Lib.occAt at h3
      rw [List.append_assoc, List.drop_left] at h3
      have h4 : u.isPrefixOf (u ++ t) = true := List.isPrefixOf_iff_prefix.2 (List.prefix_append u t)
      rw [h4] at h3
      cases h3
  · rw [h1]
    constructor
    · intro _
      unfold Lib.occAt at h3
      obtain ⟨t, ht⟩ := List.isPrefixOf_iff_prefix.1 h3
      exact ⟨x.take i, t, by rw [List.append_assoc, ht, List.take_append_drop]⟩
    · intro _; omega
def MX (W : World) : Prop := ∃ m, W.cell? ⟨0, 0, none⟩ = some (.int .i64 m)
theorem MX.keep {W W' : World} (h : MX W) (hb : Below W.heap.size W W') : MX W' := by
  obtain ⟨m, hm⟩ := h
  exact ⟨m, cell_keep hm hb⟩
theorem contains_any (x u : Wd) (W : World) (h : MX W) (hx : x.length ≤ 100000) :
    Calls Tryd.prog 17 #[.string ⟨x.toArray⟩, .string ⟨u.toArray⟩] W fun e w' => e = .returned (.bool (facB x u)) ∧ w' = W := by
  obtain ⟨m, hm⟩ := h
  have k := Tryd.strings_Contains ⟨x.toArray⟩ ⟨u.toArray⟩ m W (by simp [ByteArray.size]; omega) hm
  rw [show Lib.contains (⟨x.toArray⟩ : ByteArray).data.toList (⟨u.toArray⟩ : ByteArray).data.toList = facB x u from contains_fac x u] at k
  exact k
theorem has_any (l : List Wd) (x : Wd) (v : Value) (w : World) (hrd : WdsRd w v l) (hl : l.length ≤ 9223372036854775807) :
    Calls Tryd.prog 16 #[v, .string ⟨x.toArray⟩] w fun e w' => e = .returned (.bool (decide (x ∈ l))) ∧ w' = w := by
  by_cases h0 : l.length = 0
  · obtain ⟨a, c, rfl⟩ := hrd.form
    have e := List.eq_nil_of_length_eq_zero h0
    subst e
    exact Tryd.slices_Contains_string_empty a c ⟨x.toArray⟩ w
  · obtain ⟨b, o, c, rfl, k⟩ := hrd.cells (by omega)
    have k2 := Tryd.slices_Contains_string b o l.length c (l.map bsW) ⟨x.toArray⟩ w (by rw [List.length_map]; exact Nat.le_refl _) hl k
    rw [List.take_of_length_le (by rw [List.length_map]; exact Nat.le_refl _), show Lib.containsS (l.map bsW) (⟨x.toArray⟩ : ByteArray) = decide (x ∈ l) by
      rw [Bool.eq_iff_iff, Lib.containsS_iff, decide_eq_true_iff, List.mem_map]
      constructor
      · rintro ⟨y, hy, e⟩
        have : y = x := bsW_inj (x := y) (y := x) e
        rw [← this]; exact hy
      · intro h
        exact ⟨x, h, rfl⟩] at k2
    exact k2
def badL (n : Nat) : Bool := decide ((6 < n ∧ n ≤ 32) ∨ 35 < n)
def badN (n : Nat) : Bool := decide ((6 < n ∧ n ≤ 64) ∨ 67 < n)
def rgr (l : List Wd) : Bool := (l.any fun x => badL x.length) || badN l.length
theorem rgr_small {l : List Wd} (h : rgr l = false) : l.length ≤ 67 ∧ ∀ x ∈ l, x.length ≤ 35 := by
  unfold rgr at h
  rw [Bool.or_eq_false_iff] at h
  obtain ⟨h1, h2⟩ := h
  unfold badN at h2
  have h2 := of_decide_eq_false h2
  refine ⟨by omega, fun x hx => ?_⟩
  have h3 := List.any_eq_false.1 h1 x hx
  unfold badL at h3
  rw [decide_eq_true_iff] at h3
  omega
theorem rgr_bad {l : List Wd} {x : Wd} (hx : x ∈ l) (h : badL x.length = true) : rgr l = true := by
  unfold rgr
  rw [List.any_eq_true.2 ⟨x, hx, h⟩, Bool.true_or]
theorem rgr_end {l : List Wd} (h : ∀ x ∈ l, badL x.length = false) : rgr l = badN l.length := by
  unfold rgr
  rw [List.any_eq_false.2 (fun x hx => by rw [h x hx]; exact Bool.false_ne_true), Bool.false_or]
set_option maxRecDepth 100000 in
set_option maxHeartbeats 3200000 in
theorem rgreat14_any (l : List Wd) (v : Value) (w : World) (hrd : WdsRd w v l) (hl : l.length ≤ 9223372036854775807) (hls : ∀ x ∈ l, x.length ≤ 9223372036854775807) :
    Calls Tryd.prog 5 #[v] w fun e w' => e = .returned (.bool (rgr l)) ∧ w' = w := by
  have HRD := Lib.hid hrd
  have HLS := Lib.hid hls
  obtain ⟨R, hR⟩ : ∃ R, rgr l = R := ⟨_, rfl⟩
  have HR := Lib.hid hR
  rw [hR]
  clear hR
  obtain ⟨a, c, rfl⟩ := hrd.form
  clear hrd hls
  go_enter Tryd.func5, Tryd.ntmps5
  go_wp2_with fail
  go_loopg [3, 4] l.length (fun q s3 s4 wx => ∃ i : Nat, i + q = l.length ∧ s3 = .int .i64 (i : Int) ∧ Hid (∀ x ∈ l.take i, badL x.length = false) ∧ wx = w)
  case atStart => exact ⟨0, by omega, rfl, Lib.hid (by simp), rfl⟩
  case round =>
    obtain ⟨i, hi, rfl, HI, rfl⟩ := hrel
    rcases gk with _ | q
    · obtain rfl : i = l.length := by omega
      have j0 : ¬ ((l.length : Int) < (l.length : Int)) := by omega
      have HE := Lib.hid (rgr_end (l := l) (by have h := HI.out; rwa [List.take_length] at h))
      have hE := HR.out.symm.trans HE.out
      clear HI HE HR
      obtain ⟨n, hn⟩ : ∃ n, l.length = n := ⟨_, rfl⟩
      rw [hn] at hl hE ⊢
      clear hn
      have j0 : ¬ ((n : Int) < (n : Int)) := by omega
      have hcs : (6 < n ∧ n ≤ 64) ∨ 67 < n ∨ n ≤ 6 ∨ (64 < n ∧ n ≤ 67) := by omega
      rcases hcs with ⟨h1, h2⟩ | h1 | h1 | ⟨h1, h2⟩
      · obtain rfl : R = true := hE.trans (decide_eq_true (.inl ⟨h1, h2⟩))
        clear hE
        have d1 : 6 < (n : Int) := by omega
        have d2 : (n : Int) ≤ 64 := by omega
        go_wp2_with fail
        all_goals go_ret
        all_goals exact ⟨rfl, rfl⟩
      · obtain rfl : R = true := hE.trans (decide_eq_true (.inr h1))
        clear hE
        have d1 : 6 < (n : Int) := by omega
        have d2 : ¬ (n : Int) ≤ 64 := by omega
        have d3 : 67 < (n : Int) := by omega
        go_wp2_with fail
        all_goals go_ret
        all_goals exact ⟨rfl, rfl⟩
      · obtain rfl : R = false := hE.trans (decide_eq_false (by omega))
        clear hE
        have d1 : ¬ 6 < (n : Int) := by omega
        have d3 : ¬ 67 < (n : Int) := by omega
        go_wp2_with fail
        all_goals go_ret
        all_goals exact ⟨rfl, rfl⟩
      · obtain rfl : R = false := hE.trans (decide_eq_false (by omega))
        clear hE
        have d1 : 6 < (n : Int) := by omega
        have d2 : ¬ (n : Int) ≤ 64 := by omega
        have d3 : ¬ 67 < (n : Int) := by omega
        go_wp2_with fail
        all_goals go_ret
        all_goals exact ⟨rfl, rfl⟩
    · obtain ⟨x, hx⟩ : ∃ x, l[i]? = some x := ⟨_, List.getElem?_eq_getElem (by omega)⟩
      obtain ⟨b, off, c', hv, k1⟩ := HRD.out.at hx
      injection hv with e1 e2 e3
      subst e1
      subst e3
      have j1 : (i : Int) < (l.length : Int) := by omega
      have hxl := HLS.out x (List.mem_of_getElem? hx)
      have HB := Lib.hid (rgr_bad (List.mem_of_getElem? hx))
      have HT := Lib.hid (show l.take (i + 1) = l.take i ++ [x] by rw [List.take_add_one, hx]; rfl)
      obtain ⟨L, hL⟩ : ∃ L, x.length = L := ⟨_, rfl⟩
      have HL := Lib.hid hL
      rw [hL] at HB
      have hsz : (⟨x.toArray⟩ : ByteArray).size = L := by rw [← hL]; simp [ByteArray.size]
      rw [hL] at hxl
      clear hx e2 hL
      have hcs : (6 < L ∧ L ≤ 32) ∨ 35 < L ∨ L ≤ 6 ∨ (32 < L ∧ L ≤ 35) := by omega
      rcases hcs with ⟨h1, h2⟩ | h1 | h1 | ⟨h1, h2⟩
      · obtain rfl : R = true := HR.out.symm.trans (HB.out (decide_eq_true (.inl ⟨h1, h2⟩)))
        have d1 : 6 < (L : Int) := by omega
        have d2 : (L : Int) ≤ 32 := by omega
        go_wp2_with fail
        all_goals go_ret
        all_goals exact ⟨rfl, rfl⟩
      · have d1 : 6 < (L : Int) := by omega
        have d2 : ¬ (L : Int) ≤ 32 := by omega
        have d3 : 35 < (L : Int) := by omega
        obtain rfl : R = true := HR.out.symm.trans (HB.out (decide_eq_true (.inr h1)))
        go_wp2_with fail
        all_goals go_ret
        all_goals exact ⟨rfl, rfl⟩
      · have d1 : ¬ 6 < (L : Int) := by omega
        have d3 : ¬ 35 < (L : Int) := by omega
        go_wp2_with fail
        go_roundg q
        case measure => omega
        case rel => exact ⟨i + 1, by omega, by go_num, Lib.hid (by rw [HT.out]; intro y hy; rw [List.mem_append, List.mem_singleton] at hy; rcases hy with hy | rfl; exact HI.out y hy; rw [HL.out]; exact decide_eq_false (by omega)), rfl⟩
      · have d1 : 6 < (L : Int) := by omega
        have d2 : ¬ (L : Int) ≤ 32 := by omega
        have d3 : ¬ 35 < (L : Int) := by omega
        go_wp2_with fail
        go_roundg q
        case measure => omega
        case rel => exact ⟨i + 1, by omega, by go_num, Lib.hid (by rw [HT.out]; intro y hy; rw [List.mem_append, List.mem_singleton] at hy; rcases hy with hy | rfl; exact HI.out y hy; rw [HL.out]; exact decide_eq_false (by omega)), rfl⟩
set_option maxRecDepth 100000 in
theorem in1_any (x u : Wd) (p : Nat) (w : World) (hm : MX w) (hx : x.length ≤ 100000) (hp : w.cell? ⟨p, 0, none⟩ = some (.string ⟨x.toArray⟩)) :
    Calls Tryd.prog 19 #[.string ⟨u.toArray⟩, .pointer (some ⟨p, 0, none⟩)] w fun e w' => e = .returned (.bool (facB x u)) ∧ w' = w := by
  have HC := Lib.hid (contains_any x u w hm hx)
  clear hm
  go_enter Tryd.func19, Tryd.ntmps19
  go_wp2_with (go_at_call 17; (with_reducible refine HC.out.mono ?_); rintro e W1 ⟨rfl, hw⟩; (try subst hw))
  go_ret
  exact ⟨rfl, rfl⟩
set_option maxRecDepth 100000 in
set_option maxHeartbeats 3200000 in
theorem index1_any (l : List Wd) (x : Wd) (p : Nat) (v : Value) (w : World) (hrd : WdsRd w v l) (hl : l.length ≤ 100000) (hm : MX w) (hx : x.length ≤ 100000) (hp : w.cell? ⟨p, 0, none⟩ = some (.string ⟨x.toArray⟩)) :
    Calls Tryd.prog 38 #[v, .func (.func 19) #[] #[.pointer (some ⟨p, 0, none⟩)]] w fun e w' => (∃ z : Int, e = .returned (.int .i64 z) ∧ (decide (0 ≤ z) = l.any (facB x))) ∧ w' = w := by
  have HRD := Lib.hid hrd
  have HIN := Lib.hid (fun u => in1_any x u p w hm hx hp)
  have H0 := Lib.hid (show (l.drop 0).any (facB x) = l.any (facB x) from rfl)
  obtain ⟨a, c, rfl⟩ := hrd.form
  clear hrd hm hp
  go_enter Tryd.func38, Tryd.ntmps38
  go_wp2_with fail
  go_loopg [5, 8] l.length (fun q s5 s8 wx => ∃ i : Nat, i + q = l.length ∧ s8 = .int .i64 (i : Int) ∧ Hid ((l.drop i).any (facB x) = l.any (facB x)) ∧ wx = w)
  case atStart => exact ⟨0, by omega, rfl, H0, rfl⟩
  case round =>
    clear H0
    obtain ⟨i, hi, rfl, HI, rfl⟩ := hrel
    rcases gk with _ | q
    · obtain rfl : i = l.length := by omega
      have j0 : ¬ ((l.length : Int) < (l.length : Int)) := by omega
      have HE := Lib.hid (show l.any (facB x) = false by rw [← HI.out, List.drop_length]; rfl)
      clear HI
      go_wp2_with fail
      go_ret
      exact ⟨⟨-1, rfl, by rw [HE.out]; rfl⟩, rfl⟩
    · obtain ⟨y, hy⟩ : ∃ y, l[i]? = some y := ⟨_, List.getElem?_eq_getElem (by omega)⟩
      obtain ⟨b, off, c', hv, k1⟩ := HRD.out.at hy
      injection hv with e1 e2 e3
      subst e1
      subst e3
      have j1 : (i : Int) < (l.length : Int) := by omega
      have HD := Lib.hid (dropW_at hy)
      have HY := Lib.hid (HIN.out y)
      obtain ⟨M, hM⟩ : ∃ M, facB x y = M := ⟨_, rfl⟩
      have HM := Lib.hid hM
      rw [hM] at HY
      clear hy e2 hM
      cases M with
      | true =>
        go_wp2_with (go_at_call 19; (with_reducible refine HY.out.mono ?_); rintro e W1 ⟨rfl, hw⟩; (try subst hw))
        go_ret
        exact ⟨⟨(i : Int), rfl, by rw [← HI.out, HD.out, List.any_cons, HM.out, Bool.true_or]; exact decide_eq_true (by omega)⟩, rfl⟩
      | false =>
        have HI2 := Lib.hid (show (l.drop (i + 1)).any (facB x) = l.any (facB x) by rw [← HI.out, HD.out, List.any_cons, HM.out, Bool.false_or])
        clear HI
        go_wp2_with (go_at_call 19; (with_reducible refine HY.out.mono ?_); rintro e W1 ⟨rfl, hw⟩; (try subst hw))
        go_roundg q
        case measure => omega
        case rel => exact ⟨i + 1, by omega, by go_num, HI2, rfl⟩
set_option maxRecDepth 100000 in
theorem any1_any (l : List Wd) (x : Wd) (p : Nat) (v : Value) (w : World) (hrd : WdsRd w v l) (hl : l.length ≤ 100000) (hm : MX w) (hx : x.length ≤ 100000) (hp : w.cell? ⟨p, 0, none⟩ = some (.string ⟨x.toArray⟩)) :
    Calls Tryd.prog 18 #[v, .func (.func 19) #[] #[.pointer (some ⟨p, 0, none⟩)]] w fun e w' => e = .returned (.bool (l.any (facB x))) ∧ w' = w := by
  have HI := Lib.hid (index1_any l x p v w hrd hl hm hx hp)
  obtain ⟨a, c, rfl⟩ := hrd.form
  clear hrd hm hp
  go_enter Tryd.func18, Tryd.ntmps18
  go_wp2_with (go_at_call 38; (with_reducible refine HI.out.mono ?_); rintro e W1 ⟨⟨z, rfl, hz⟩, hw⟩; (try subst hw))
  go_ret
  exact ⟨rfl, rfl⟩
set_option maxRecDepth 100000 in
theorem in2_any (x u : Wd) (p : Nat) (w : World) (hm : MX w) (hx : x.length ≤ 100000) (hp : w.cell? ⟨p, 0, none⟩ = some (.string ⟨x.toArray⟩)) :
    Calls Tryd.prog 21 #[.string ⟨u.toArray⟩, .pointer (some ⟨p, 0, none⟩)] w fun e w' => e = .returned (.bool (facB x u)) ∧ w' = w := by
  have HC := Lib.hid (contains_any x u w hm hx)
  clear hm
  go_enter Tryd.func21, Tryd.ntmps21
  go_wp2_with (go_at_call 17; (with_reducible refine HC.out.mono ?_); rintro e W1 ⟨rfl, hw⟩; (try subst hw))
  go_ret
  exact ⟨rfl, rfl⟩
set_option maxRecDepth 100000 in
set_option maxHeartbeats 3200000 in
theorem index2_any (l : List Wd) (x : Wd) (p : Nat) (v : Value) (w : World) (hrd : WdsRd w v l) (hl : l.length ≤ 100000) (hm : MX w) (hx : x.length ≤ 100000) (hp : w.cell? ⟨p, 0, none⟩ = some (.string ⟨x.toArray⟩)) :
    Calls Tryd.prog 38 #[v, .func (.func 21) #[] #[.pointer (some ⟨p, 0, none⟩)]] w fun e w' => (∃ z : Int, e = .returned (.int .i64 z) ∧ (decide (0 ≤ z) = l.any (facB x))) ∧ w' = w := by
  have HRD := Lib.hid hrd
  have HIN := Lib.hid (fun u => in2_any x u p w hm hx hp)
  have H0 := Lib.hid (show (l.drop 0).any (facB x) = l.any (facB x) from rfl)
  obtain ⟨a, c, rfl⟩ := hrd.form
  clear hrd hm hp
  go_enter Tryd.func38, Tryd.ntmps38
  go_wp2_with fail
  go_loopg [5, 8] l.length (fun q s5 s8 wx => ∃ i : Nat, i + q = l.length ∧ s8 = .int .i64 (i : Int) ∧ Hid ((l.drop i).any (facB x) = l.any (facB x)) ∧ wx = w)
  case atStart => exact ⟨0, by omega, rfl, H0, rfl⟩
  case round =>
    clear H0
    obtain ⟨i, hi, rfl, HI, rfl⟩ := hrel
    rcases gk with _ | q
    · obtain rfl : i = l.length := by omega
      have j0 : ¬ ((l.length : Int) < (l.length : Int)) := by omega
      have HE := Lib.hid (show l.any (facB x) = false by rw [← HI.out, List.drop_length]; rfl)
      clear HI
      go_wp2_with fail
      go_ret
      exact ⟨⟨-1, rfl, by rw [HE.out]; rfl⟩, rfl⟩
    · obtain ⟨y, hy⟩ : ∃ y, l[i]? = some y := ⟨_, List.getElem?_eq_getElem (by omega)⟩
      obtain ⟨b, off, c', hv, k1⟩ := HRD.out.at hy
      injection hv with e1 e2 e3
      subst e1
      subst e3
      have j1 : (i : Int) < (l.length : Int) := by omega
      have HD := Lib.hid (dropW_at hy)
      have HY := Lib.hid (HIN.out y)
      obtain ⟨M, hM⟩ : ∃ M, facB x y = M := ⟨_, rfl⟩
      have HM := Lib.hid hM
      rw [hM] at HY
      clear hy e2 hM
      cases M with
      | true =>
        go_wp2_with (go_at_call 21; (with_reducible refine HY.out.mono ?_); rintro e W1 ⟨rfl, hw⟩; (try subst hw))
        go_ret
        exact ⟨⟨(i : Int), rfl, by rw [← HI.out, HD.out, List.any_cons, HM.out, Bool.true_or]; exact decide_eq_true (by omega)⟩, rfl⟩
      | false =>
        have HI2 := Lib.hid (show (l.drop (i + 1)).any (facB x) = l.any (facB x) by rw [← HI.out, HD.out, List.any_cons, HM.out, Bool.false_or])
        clear HI
        go_wp2_with (go_at_call 21; (with_reducible refine HY.out.mono ?_); rintro e W1 ⟨rfl, hw⟩; (try subst hw))
        go_roundg q
        case measure => omega
        case rel => exact ⟨i + 1, by omega, by go_num, HI2, rfl⟩
set_option maxRecDepth 100000 in
theorem any2_any (l : List Wd) (x : Wd) (p : Nat) (v : Value) (w : World) (hrd : WdsRd w v l) (hl : l.length ≤ 100000) (hm : MX w) (hx : x.length ≤ 100000) (hp : w.cell? ⟨p, 0, none⟩ = some (.string ⟨x.toArray⟩)) :
    Calls Tryd.prog 18 #[v, .func (.func 21) #[] #[.pointer (some ⟨p, 0, none⟩)]] w fun e w' => e = .returned (.bool (l.any (facB x))) ∧ w' = w := by
  have HI := Lib.hid (index2_any l x p v w hrd hl hm hx hp)
  obtain ⟨a, c, rfl⟩ := hrd.form
  clear hrd hm hp
  go_enter Tryd.func18, Tryd.ntmps18
  go_wp2_with (go_at_call 38; (with_reducible refine HI.out.mono ?_); rintro e W1 ⟨⟨z, rfl, hz⟩, hw⟩; (try subst hw))
  go_ret
  exact ⟨rfl, rfl⟩
end Go.Proofs.YtkpmapeapiodcaaDoor

namespace Go.Proofs.YtkpmapeapiodcaaDoor
open Go.ChangeShapes Go.WideShapes Go.ChangeAt Go.RowKit
open Go.ChangeMaps (open_string shut_string)

theorem ownNone : ownKnob Tryd.prog.godebug = none := by kernel_rfl
def lst : List (String × DataW Unit) := [("unicode/utf8.acceptRanges", Rows.laid_unicode_utf8_acceptRanges), ("unicode/utf8.first", Rows.laid_unicode_utf8_first)]

def litCells : DataW Unit → List Value
  | .lit (.int k n) => [.int k n]
  | _ => []
def rowCells : DataW Unit → List Value
  | .agg ps => ps.flatMap litCells
  | d => litCells d
def tabCells : DataW Unit → List Value
  | .agg ps => ps.flatMap rowCells
  | d => litCells d
def layAt (g : Nat) (cs : List Value) (h : Array Obj) : Array Obj := h.modify g fun
  | .cells _ t fr => .cells cs.toArray t fr
  | o => o
noncomputable def laidWorld (os : Os) : World :=
  { World.holding Tryd.prog os ⟨#[], #[], []⟩ with heap := layAt 2 (tabCells Rows.laid_unicode_utf8_acceptRanges) (layAt 1 (tabCells Rows.laid_unicode_utf8_first) (World.holding Tryd.prog os ⟨#[], #[], []⟩).heap) }
set_option maxRecDepth 100000 in
theorem laid_met (os : Os) (args : Array Value) : laidMet Tryd.prog lst ((laidWorld os).forCall (fun _ _ => 0) ⟨#[], args, []⟩).memory :=
  laidMet_of_run' 8 (by kernel_rfl) (by kernel_rfl)

end Go.Proofs.YtkpmapeapiodcaaDoor
