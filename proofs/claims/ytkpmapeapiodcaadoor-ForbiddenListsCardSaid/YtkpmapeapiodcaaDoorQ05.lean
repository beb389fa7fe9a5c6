/- What grooveref14.less and forbidden.checkList return. Conditions: the words can be read; lengths are those of strings and slices. What forbidden.setOf returns: a map that holds the words of a list. Conditions: the words can be read; lengths are those of strings and slices. What grooveref14.less returns. Condition: lengths are those of strings. -/
import Derived.Test.YtkpmapeapiodcaaDoorQ04
import Derived.BigQuiet
import Derived.Maps.OwnSet
import Derived.Maps.OwnOps

namespace Go.Proofs.YtkpmapeapiodcaaDoor
open Go.RowKit
set_option linter.unusedSimpArgs false
set_option linter.unusedVariables false

theorem WdsRd.len {W : World} {v : Value} {l : List Wd} (h : WdsRd W v l) : ∃ a c, v = .slice a l.length c := h.form
def clF (q : Int) (o : Bool) : Option Wd → List Wd → Int
  | _, [] => 0
  | p, x :: r => if cwW q x ≠ 0 then cwW q x else if o = true ∧ (∃ y, p = some y ∧ 0 ≤ cmpW y x) then 10 else clF q o (some x) r
def clW (q : Int) (o : Bool) (l : List Wd) : Int := if 1 ≤ q ∧ q ≤ 16 then (if 64 < l.length then 4 else clF q o none l) else 12
theorem clF_bad {q : Int} {o : Bool} {p : Option Wd} {x : Wd} {r : List Wd} (h : cwW q x ≠ 0) : clF q o p (x :: r) = cwW q x := by rw [clF, if_pos h]
theorem clF_ord {q : Int} {y x : Wd} {r : List Wd} (h : cwW q x = 0) (h2 : 0 ≤ cmpW y x) : clF q true (some y) (x :: r) = 10 := by
  rw [clF, if_neg (by omega), if_pos ⟨rfl, y, rfl, h2⟩]
theorem clF_step {q : Int} {o : Bool} {p : Option Wd} {x : Wd} {r : List Wd} (h : cwW q x = 0) (h2 : o = true → ∀ y, p = some y → cmpW y x < 0) : clF q o p (x :: r) = clF q o (some x) r := by
  rw [clF, if_neg (by omega), if_neg]
  rintro ⟨ho, y, rfl, h3⟩
  have := h2 ho y rfl
  omega
def prevW (l : List Wd) (i : Nat) : Option Wd := (l.take i).getLast?
theorem prevW_zero (l : List Wd) : prevW l 0 = none := rfl
theorem prevW_succ {l : List Wd} {i : Nat} {x : Wd} (h : l[i]? = some x) : prevW l (i + 1) = some x := by
  unfold prevW
  rw [List.take_add_one, h, Option.toList_some, List.getLast?_concat]
theorem dropW_at {l : List Wd} {i : Nat} {x : Wd} (h : l[i]? = some x) : l.drop i = x :: l.drop (i + 1) := by
  obtain ⟨hi, h2⟩ := List.getElem?_eq_some_iff.1 h
  rw [List.drop_eq_getElem_cons hi, h2]
set_option maxRecDepth 100000 in
set_option maxHeartbeats 6400000 in
theorem checkList_any (q : Int) (o : Bool) (l : List Wd) (v : Value) (w : World) (hrd : WdsRd w v l) (hl : l.length ≤ 100000) (hx : ∀ x ∈ l, x.length ≤ 9223372036854775807) :
    Calls Tryd.prog 24 #[.int .i64 q, v, .bool o] w fun e w' => e = .returned (.int .i64 (clW q o l)) ∧ Below w.heap.size w w' := by
  have HC : Hid (∀ W, Calls Tryd.prog 20 #[.int .i64 q, .string ⟨#[]⟩] W fun e w' => e = .returned (.int .i64 (chk q [])) ∧ Below W.heap.size W w') := Lib.hid (fun W => wcheck_any q [] W (Nat.zero_le _))
  have HW := Lib.hid (fun W x (h : x ∈ l) => checkWord_any q x W (hx x h))
  have HCM := Lib.hid (fun W x y => compareW_any x y W)
  have HRD := Lib.hid hrd
  obtain ⟨a, c, rfl⟩ := hrd.form
  clear hrd
  obtain ⟨Z, hZ⟩ : ∃ Z, clW q o l = Z := ⟨_, rfl⟩
  have HZ := Lib.hid hZ
  rw [hZ]
  clear hZ
  by_cases hq : 1 ≤ q ∧ q ≤ 16
  · have hc0 : chk q [] = 0 := by
      unfold chk
      rw [if_pos hq, if_pos (show ([] : List UInt8).length ≤ 65536 from Nat.zero_le _), if_pos (show Wof q.toNat [] by intro c hc; cases hc)]
    rw [hc0] at HC
    by_cases h64 : 64 < l.length
    · have HE := Lib.hid (show Z = 4 by rw [← HZ.out]; unfold clW; rw [if_pos hq, if_pos h64])
      have d1 : decide ((64 : Int) < (l.length : Int)) = true := decide_eq_true (by omega)
      clear hq hc0 h64 HZ
      go_enter Tryd.func24, Tryd.ntmps24
      go_wp2_with (go_at_call 20; (with_reducible refine (HC.out _).mono ?_); rintro e W1 ⟨rfl, b1⟩; (have B1 := Lib.hid b1); clear b1)
      go_ret
      exact ⟨by rw [HE.out]; try rfl, B1.out⟩
    · have HZ2 := Lib.hid (show clF q o none l = Z by rw [← HZ.out]; unfold clW; rw [if_pos hq, if_neg h64])
      have d1 : decide ((64 : Int) < (l.length : Int)) = false := decide_eq_false (by omega)
      clear hq hc0 h64 HZ
      go_enter Tryd.func24, Tryd.ntmps24
      go_wp2_with (go_at_call 20; (with_reducible refine (HC.out _).mono ?_); rintro e W1 ⟨rfl, b1⟩; (have B1 := Lib.hid b1); clear b1)
      go_loopg [7, 8, 9, 18] l.length (fun g s7 s8 s9 s18 wx => ∃ i : Nat, i + g = l.length ∧ s18 = .int .i64 (i : Int) ∧ Hid (clF q o (prevW l i) (l.drop i) = Z) ∧ Hid (Below w.heap.size w wx))
      case atStart => exact ⟨0, by omega, rfl, HZ2, B1⟩
      case round =>
        clear B1 HZ2
        obtain ⟨i, hi, rfl, HI, HB⟩ := hrel
        rcases gk with _ | g
        · obtain rfl : i = l.length := by omega
          have HE := Lib.hid (show Z = 0 by rw [← HI.out, List.drop_length]; rfl)
          have j0 : ¬ ((l.length : Int) < (l.length : Int)) := by omega
          clear HI
          go_wp2_with fail
          go_ret
          exact ⟨by rw [HE.out]; try rfl, HB.out⟩
        · obtain ⟨x, hxx⟩ : ∃ x, l[i]? = some x := ⟨_, List.getElem?_eq_getElem (by omega)⟩
          have hm := List.mem_of_getElem? hxx
          obtain ⟨b, off, c', hv, k1⟩ := (HRD.out.keep HB.out).at hxx
          injection hv with e1 e2 e3
          subst e1
          subst e3
          have j1 : (i : Int) < (l.length : Int) := by omega
          obtain ⟨z, hz⟩ : ∃ z, cwW q x = z := ⟨_, rfl⟩
          have HWX := Lib.hid (hz ▸ HW.out wr x hm)
          have HDR := dropW_at hxx
          by_cases h0 : z = 0
          · subst h0
            cases o
            · have HN := Lib.hid (show clF q false (prevW l (i + 1)) (l.drop (i + 1)) = Z by rw [prevW_succ hxx, ← clF_step (p := prevW l i) hz (by simp), ← HDR]; exact HI.out)
              clear HI HDR hxx hm hz e2
              go_wp2_with (go_at_call 45; (with_reducible refine HWX.out.mono ?_); rintro e0 W5 ⟨rfl, b5⟩; (have B5 := Lib.hid (HB.out.trans (b5.mono HB.out.size))); clear b5)
              go_roundg g
              case measure => omega
              case rel => exact ⟨i + 1, by omega, by go_num, HN, B5⟩
            · by_cases hi0 : i = 0
              · have HN := Lib.hid (show clF q true (prevW l (i + 1)) (l.drop (i + 1)) = Z by rw [prevW_succ hxx, ← clF_step (p := prevW l i) hz (by intro _ y hy; rw [hi0, prevW_zero] at hy; cases hy), ← HDR]; exact HI.out)
                have d3 : decide ((0 : Int) < (i : Int)) = false := decide_eq_false (by omega)
                have j3 : ¬ (0 : Int) < (i : Int) := by omega
                have j4 : ¬ 0 < i := by omega
                clear HI HDR hxx hm hz e2 hi0
                go_wp2_with (go_at_call 45; (with_reducible refine HWX.out.mono ?_); rintro e0 W5 ⟨rfl, b5⟩; (have B5 := Lib.hid (HB.out.trans (b5.mono HB.out.size))); clear b5)
                go_roundg g
                case measure => omega
                case rel => exact ⟨i + 1, by omega, by go_num, HN, B5⟩
              · obtain ⟨i, rfl⟩ : ∃ k, i = k + 1 := ⟨i - 1, by omega⟩
                obtain ⟨y, hyy⟩ : ∃ y, l[i]? = some y := ⟨_, List.getElem?_eq_getElem (by omega)⟩
                obtain ⟨b', off', c'', hv, k2⟩ := (HRD.out.keep HB.out).at hyy
                injection hv with f1 f2 f3
                injection f1 with f1
                injection f1 with g1 g2
                subst g1
                subst g2
                clear f2 f3 hi0
                obtain ⟨t, ht⟩ : ∃ t, cmpW y x = t := ⟨_, rfl⟩
                have HCX := fun W => Lib.hid (ht ▸ HCM.out W y x)
                by_cases t0 : 0 ≤ t
                · have HE := Lib.hid (show Z = 10 by rw [← HI.out, HDR, prevW_succ hyy, clF_ord hz (by omega)])
                  have d3 : decide ((0 : Int) ≤ t) = true := decide_eq_true t0
                  clear HI HDR hxx hm hz e2 hyy ht
                  go_wp2_with first | (go_at_call 45; (with_reducible refine HWX.out.mono ?_); rintro e0 W5 ⟨rfl, b5⟩; (have B5 := Lib.hid (HB.out.trans (b5.mono HB.out.size))); (have k5 := cell_keep k2 b5); clear b5) | (go_at_call 28; (with_reducible refine (HCX _).out.mono ?_); rintro e1 W6 ⟨rfl, b6⟩; (have B6 := Lib.hid (B5.out.trans (b6.mono B5.out.size))); clear b6)
                  go_ret
                  exact ⟨by rw [HE.out]; try rfl, B6.out⟩
                · have HN := Lib.hid (show clF q true (prevW l (i + 1 + 1)) (l.drop (i + 1 + 1)) = Z by rw [prevW_succ hxx, ← clF_step (p := prevW l (i + 1)) hz (by intro _ y' hy; rw [prevW_succ hyy] at hy; injection hy with hy; subst hy; omega), ← HDR]; exact HI.out)
                  have d3 : decide ((0 : Int) ≤ t) = false := decide_eq_false t0
                  clear HI HDR hxx hm hz e2 hyy ht
                  go_wp2_with first | (go_at_call 45; (with_reducible refine HWX.out.mono ?_); rintro e0 W5 ⟨rfl, b5⟩; (have B5 := Lib.hid (HB.out.trans (b5.mono HB.out.size))); (have k5 := cell_keep k2 b5); clear b5) | (go_at_call 28; (with_reducible refine (HCX _).out.mono ?_); rintro e1 W6 ⟨rfl, b6⟩; (have B6 := Lib.hid (B5.out.trans (b6.mono B5.out.size))); clear b6)
                  go_roundg g
                  case measure => omega
                  case rel => exact ⟨i + 1 + 1, by omega, by go_num, HN, B6⟩
          · have HE := Lib.hid (show Z = z by rw [← HI.out, HDR, clF_bad (by rw [hz]; exact h0), hz])
            have d2 : (z != 0) = true := by simpa using h0
            clear HI HDR hxx hm hz h0 e2
            go_wp2_with (go_at_call 45; (with_reducible refine HWX.out.mono ?_); rintro e0 W5 ⟨rfl, b5⟩; (have B5 := Lib.hid (HB.out.trans (b5.mono HB.out.size))); clear b5)
            go_ret
            exact ⟨by rw [HE.out]; try rfl, B5.out⟩
  · have hc0 : chk q [] = 12 := by unfold chk; rw [if_neg hq]
    rw [hc0] at HC
    have HE := Lib.hid (show Z = 12 by rw [← HZ.out]; unfold clW; rw [if_neg hq])
    clear hq hc0 HZ
    go_enter Tryd.func24, Tryd.ntmps24
    go_wp2_with (go_at_call 20; (with_reducible refine (HC.out _).mono ?_); rintro e W1 ⟨rfl, b1⟩; (have B1 := Lib.hid b1); clear b1)
    go_ret
    exact ⟨by rw [HE.out]; try rfl, B1.out⟩
end Go.Proofs.YtkpmapeapiodcaaDoor

namespace Go.Proofs.YtkpmapeapiodcaaDoor
open Go.RowKit Go.Maps
set_option linter.unusedSimpArgs false
set_option linter.unusedVariables false

theorem Tryd.keyedS : Keyed Tryd.prog 9 := string_keyed Tryd.underlying9
theorem keyS_of {x : Wd} (h : x.length ≤ 9223372036854775807) : keyOf Tryd.prog 9 (.string ⟨x.toArray⟩) = some (.string x) := by
  rw [WideMaps.keyOf_string_mk (P := Tryd.prog) Tryd.underlying9 (s := ⟨x.toArray⟩) (by unfold maxLen; simpa [ByteArray.size] using h)]
abbrev MapS : Type := DataW Unit
def mapS (l : List Wd) : MapS := l.foldl (fun D x => D.put (.string x) (.lit (.bool true))) (.map [])
theorem mapS_snoc (l : List Wd) (x : Wd) : mapS (l ++ [x]) = (mapS l).put (.string x) (.lit (.bool true)) := by
  unfold mapS
  rw [List.foldl_append]; rfl
theorem snocS {P : List Wd → Prop} (h0 : P []) (h1 : ∀ l x, P l → P (l ++ [x])) : ∀ l, P l := by
  intro l
  have : ∀ n (l : List Wd), l.length = n → P l := by
    intro n
    induction n with
    | zero => intro l hl; rw [List.length_eq_zero_iff.1 hl]; exact h0
    | succ n ih =>
      intro l hl
      have hne : l ≠ [] := fun e => by rw [e] at hl; cases hl
      rw [← List.dropLast_concat_getLast hne]
      exact h1 _ _ (ih _ (by rw [List.length_dropLast]; omega))
  exact this _ l rfl
theorem keyS_key (x : Wd) : WideAt.IsKeyLit (.string x) := trivial
theorem keyS_ne {x y : Wd} (h : x ≠ y) : Lit.string x ≠ Lit.string y := fun e => by injection e with e; exact h e
theorem mapS_tidy : ∀ (l : List Wd), Tidy (mapS l) :=
  snocS tidy_empty (fun l x ih => by rw [mapS_snoc]; exact ih.put (keyS_key _) _)
theorem mapS_has (x : Wd) : ∀ (l : List Wd), Maps.has (mapS l) (.string x) = decide (x ∈ l) :=
  snocS (by simp [mapS, Maps.has]) (fun l y ih => by
    rw [mapS_snoc]
    by_cases h : x = y
    · subst h
      rw [has_put_same (mapS_tidy l).isMap (keyS_key _)]; simp
    · rw [has_put_other (keyS_ne h), ih]; simp [h])
theorem mapS_at (x : Wd) : ∀ (l : List Wd), (mapS l).atKey (.string x) (.lit (.bool false)) = .lit (.bool (decide (x ∈ l))) :=
  snocS (by simp [mapS]; rfl) (fun l y ih => by
    rw [mapS_snoc]
    by_cases h : x = y
    · subst h
      rw [atKey_put_same (mapS_tidy l).isMap (keyS_key _)]; simp
    · rw [atKey_put_other (keyS_ne h), ih]; simp [h])
set_option maxRecDepth 100000 in
set_option maxHeartbeats 6400000 in
theorem setOf_any (l : List Wd) (v : Value) (w : World) (hrd : WdsRd w v l) (hl : l.length ≤ 100000) (hx : ∀ x ∈ l, x.length ≤ 9223372036854775807) :
    Calls Tryd.prog 25 #[v] w fun e w' => e = .returned (.map (some w.heap.size)) ∧ w'.ownsMap Tryd.prog 9 (plainElem Tryd.prog 4) w.heap.size l.length (mapS l) ∧ Below w.heap.size w w' := by
  have hmm := @run_makeMap Tryd.prog
  have HRD := Lib.hid hrd
  obtain ⟨a, c, rfl⟩ := hrd.form
  obtain ⟨R, hR⟩ : ∃ R, w.heap.size = R := ⟨_, rfl⟩
  have M0 := Lib.hid (World.ownsMap_made (H := Unit) w Tryd.prog 9 (plainElem Tryd.prog 4))
  have B0 := Lib.hid (below1 w (.map #[] 0))
  rw [hR] at M0
  clear hrd
  go_enter Tryd.func25, Tryd.ntmps25
  go_wp2_with fail
  have HRR := Lib.hid hR
  clear hmm hR
  generalize (w.alloc (.map #[] 0)) = X at *
  go_loopg [5, 9] l.length (fun g s5 s9 wx => ∃ i : Nat, i + g = l.length ∧ s9 = .int .i64 (i : Int) ∧ Hid (wx.ownsMap Tryd.prog 9 (plainElem Tryd.prog 4) R i (mapS (l.take i))) ∧ Hid (Below w.heap.size w wx))
  case atStart => exact ⟨0, by omega, rfl, M0, B0⟩
  case round =>
    clear M0 B0
    obtain ⟨i, hi, rfl, HM, HB⟩ := hrel
    rcases gk with _ | g
    · obtain rfl : i = l.length := by omega
      have HE := Lib.hid (show wr.ownsMap Tryd.prog 9 (plainElem Tryd.prog 4) R l.length (mapS l) by have := HM.out; rwa [List.take_length] at this)
      have j0 : ¬ ((l.length : Int) < (l.length : Int)) := by omega
      clear HM
      go_wp2_with fail
      go_ret
      exact ⟨by rw [HRR.out]; rfl, by rw [HRR.out]; exact HE.out, HB.out⟩
    · obtain ⟨x, hxx⟩ : ∃ x, l[i]? = some x := ⟨_, List.getElem?_eq_getElem (by omega)⟩
      have hm := List.mem_of_getElem? hxx
      obtain ⟨b, off, c', hv, k1⟩ := (HRD.out.keep HB.out).at hxx
      injection hv with e1 e2 e3
      subst e1
      subst e3
      have j1 : (i : Int) < (l.length : Int) := by omega
      have hkey := keyS_of (hx x hm)
      have hmp := HM.out
      have HT := Lib.hid (show l.take (i + 1) = l.take i ++ [x] by rw [List.take_add_one, hxx]; rfl)
      have hin : i < 100000 := by omega
      clear hxx hm e2
      go_wp2_with (at_mapUpdate; refine wpList_mapUpdate_own _ rfl _ _ _ 48 rfl 9 4 Tryd.keyedS Tryd.underlying48 _ R i _ rfl hmp (by unfold maxLen; omega) _ _ _ rfl rfl hkey _ [] (plainElem_bool Tryd.underlying4 true) ?_; intro w1 hown1 hgrow1)
      go_roundg g
      case measure => omega
      case rel => exact ⟨i + 1, by omega, by go_num, Lib.hid (by rw [HT.out, mapS_snoc]; exact hown1), Lib.hid (HB.out.grown hgrow1 HB.out.size (fun k e => by injection e with e; rw [← HRR.out] at e; omega))⟩
end Go.Proofs.YtkpmapeapiodcaaDoor

namespace Go.Proofs.YtkpmapeapiodcaaDoor
open Go.RowKit
set_option linter.unusedSimpArgs false
set_option linter.unusedVariables false

theorem bless_iff : ∀ (x y : Wd), Op.bytesLess x y = decide (x < y)
  | [], [] => by simp [Op.bytesLess]
  | _ :: _, [] => by simp [Op.bytesLess]
  | [], _ :: _ => by simp [Op.bytesLess]
  | a :: x, b :: y => by
    rw [Op.bytesLess, bless_iff x y]
    simp only [List.cons_lt_cons_iff]
    by_cases h1 : a < b <;> by_cases h2 : a = b <;> by_cases h3 : x < y <;> simp [h1, h2, h3]
theorem tl_of {x : Wd} {s : ByteArray} (h : ⟨x.toArray⟩ = s) : s.toList = x := by
  subst h
  rw [Lib.toList_data]
set_option maxRecDepth 100000 in
set_option maxHeartbeats 6400000 in
theorem rless_any (x y : Wd) (w : World) (hx : x.length ≤ 9223372036854775807) (hy : y.length ≤ 9223372036854775807) :
    Calls Tryd.prog 35 #[.string ⟨x.toArray⟩, .string ⟨y.toArray⟩] w fun e w' => e = .returned (.bool (decide (cmpW x y < 0))) ∧ w' = w := by
  obtain ⟨sx, hsx⟩ : ∃ s : ByteArray, ⟨x.toArray⟩ = s := ⟨_, rfl⟩
  obtain ⟨sy, hsy⟩ : ∃ s : ByteArray, ⟨y.toArray⟩ = s := ⟨_, rfl⟩
  obtain ⟨m, hm⟩ : ∃ m, x.length = m := ⟨_, rfl⟩
  obtain ⟨n, hn⟩ : ∃ n, y.length = n := ⟨_, rfl⟩
  have h1 : sx.size = m := by rw [← hsx, ← hm]; simp [ByteArray.size]
  have h2 : sy.size = n := by rw [← hsy, ← hn]; simp [ByteArray.size]
  obtain ⟨Z, hZ⟩ : ∃ Z, decide (cmpW x y < 0) = Z := ⟨_, rfl⟩
  rw [hZ, hsx, hsy]
  rw [hm] at hx
  rw [hn] at hy
  rcases Nat.lt_trichotomy m n with h | h | h
  · have HE := Lib.hid (show Z = true by rw [← hZ]; exact decide_eq_true (cmpW_neg.2 (.inl (by omega))))
    have d1 : decide ((m : Int) < (n : Int)) = true := decide_eq_true (by omega)
    clear hZ hsx hsy hm hn
    go_enter Tryd.func35, Tryd.ntmps35
    go_wp2_with fail
    go_ret
    exact ⟨by rw [HE.out]; try rfl, rfl⟩
  · have HE := Lib.hid (show Z = decide (x < y) by rw [← hZ]; exact decide_eq_decide.2 (cmpW_neg.trans ⟨fun h2 => h2.elim (fun h2 => by omega) (fun h2 => h2.2), fun h2 => .inr ⟨by omega, h2⟩⟩))
    have d1 : decide ((m : Int) < (n : Int)) = false := decide_eq_false (by omega)
    have j1 : ¬ (m : Int) < (n : Int) := by omega
    have j2 : (m : Int) = (n : Int) := by omega
    clear hZ hm hn
    go_enter Tryd.func35, Tryd.ntmps35
    go_wp2_with fail
    go_ret
    exact ⟨by rw [HE.out, tl_of hsx, tl_of hsy, bless_iff]; try rfl, rfl⟩
  · have HE := Lib.hid (show Z = false by rw [← hZ]; exact decide_eq_false (fun h2 => (cmpW_neg.1 h2).elim (fun h2 => by omega) (fun h2 => by omega)))
    have d1 : decide ((m : Int) < (n : Int)) = false := decide_eq_false (by omega)
    have j1 : ¬ (m : Int) < (n : Int) := by omega
    have j2 : ¬ (m : Int) = (n : Int) := by omega
    clear hZ hsx hsy hm hn
    go_enter Tryd.func35, Tryd.ntmps35
    go_wp2_with fail
    go_ret
    exact ⟨by rw [HE.out]; try rfl, rfl⟩
end Go.Proofs.YtkpmapeapiodcaaDoor
