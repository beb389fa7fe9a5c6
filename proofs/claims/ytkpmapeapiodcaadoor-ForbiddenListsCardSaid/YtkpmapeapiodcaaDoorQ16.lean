/- What grooveref14.Check returns. Conditions: the words can be read; lengths are those of strings and slices. What forbidden.Allowed and grooveref14.Allowed return for any words. Conditions: the words can be read, are at most 10^5; lengths are those of strings. Plain: a word put into a strictly ascending list; minimal words word by word. No condition. -/
import Derived.Test.YtkpmapeapiodcaaDoorQ15
import Derived.BigQuiet
import Derived.Test.YtkpmapeapiodcaaDoorQ08
import Derived.Test.YtkpmapeapiodcaaDoorQ01

namespace Go.Proofs.YtkpmapeapiodcaaDoor
open Go.RowKit
set_option linter.unusedSimpArgs false
set_option linter.unusedVariables false

set_option maxRecDepth 100000 in
set_option maxHeartbeats 6400000 in
theorem rlist_any (q : Int) (l : List Wd) (v : Value) (w : World) (hrd : WdsRd w v l) (hl : l.length ≤ 100000) (hx : ∀ x ∈ l, x.length ≤ 9223372036854775807) :
    Calls Tryd.prog 12 #[.int .i64 q, v] w fun e w' => e = .returned (.int .i64 (clW q true l)) ∧ Below w.heap.size w w' := by
  have HW := Lib.hid (fun W x (h : x ∈ l) => rone_any q x W (hx x h))
  have HLS := Lib.hid (fun W x y (h : x ∈ l) (h2 : y ∈ l) => rless_any x y W (hx x h) (hx y h2))
  have HRD := Lib.hid hrd
  obtain ⟨a, c, rfl⟩ := hrd.form
  clear hrd
  obtain ⟨Z, hZ⟩ : ∃ Z, clW q true l = Z := ⟨_, rfl⟩
  have HZ := Lib.hid hZ
  rw [hZ]
  clear hZ
  by_cases q1 : 1 ≤ q
  · by_cases q2 : q ≤ 16
    · have dq1 : decide (q < 1) = false := decide_eq_false (by omega)
      have dq2 : decide (16 < q) = false := decide_eq_false (by omega)
      by_cases h64 : 64 < l.length
      · have HE := Lib.hid (show Z = 4 by rw [← HZ.out]; unfold clW; rw [if_pos ⟨q1, q2⟩, if_pos h64])
        have d1 : decide ((64 : Int) < (l.length : Int)) = true := decide_eq_true (by omega)
        clear h64 HZ
        go_enter Tryd.func12, Tryd.ntmps12
        go_wp2_with fail
        go_ret
        exact ⟨by rw [HE.out]; try rfl, Below.refl _ _⟩
      · have HZ2 := Lib.hid (show clF q true none l = Z by rw [← HZ.out]; unfold clW; rw [if_pos ⟨q1, q2⟩, if_neg h64])
        have d1 : decide ((64 : Int) < (l.length : Int)) = false := decide_eq_false (by omega)
        clear h64 HZ
        go_enter Tryd.func12, Tryd.ntmps12
        go_wp2_with fail
        go_loopg [5, 6] l.length (fun g s5 s6 wx => ∃ i : Nat, i + g = l.length ∧ s5 = .int .i64 (i : Int) ∧ Hid (clF q true (prevW l i) (l.drop i) = Z) ∧ Hid (Below w.heap.size w wx))
        case atStart => exact ⟨0, by omega, rfl, HZ2, Lib.hid (Below.refl _ _)⟩
        case round =>
          clear HZ2
          obtain ⟨i, hi, rfl, HI, HB⟩ := hrel
          rcases gk with _ | g
          · obtain rfl : i = l.length := by omega
            have HE := Lib.hid (show Z = 0 by rw [← HI.out, List.drop_length]; rfl)
            have j0 : ¬ ((l.length : Int) < (l.length : Int)) := by omega
            clear HI
            go_wp2_with fail
            go_ret
            exact ⟨by rw [HE.out]; try rfl, HB.out⟩
          · obtain ⟨x, hxx⟩ : ∃ x, l[i]? = some x := ⟨_, List.getElem?_eq_getElem (by omega)⟩
            have hm := List.mem_of_getElem? hxx
            obtain ⟨b, off, c', hv, k1⟩ := (HRD.out.keep HB.out).at hxx
            injection hv with e1 e2 e3
            subst e1
            subst e3
            have j1 : (i : Int) < (l.length : Int) := by omega
            obtain ⟨z, hz⟩ : ∃ z, cwW q x = z := ⟨_, rfl⟩
            have HWX := Lib.hid (hz ▸ HW.out wr x hm)
            have HDR := dropW_at hxx
            by_cases h0 : z = 0
            · subst h0
              by_cases hi0 : i = 0
              · have HN := Lib.hid (show clF q true (prevW l (i + 1)) (l.drop (i + 1)) = Z by rw [prevW_succ hxx, ← clF_step (p := prevW l i) hz (by intro _ y hy; rw [hi0, prevW_zero] at hy; cases hy), ← HDR]; exact HI.out)
                have d3 : decide ((0 : Int) < (i : Int)) = false := decide_eq_false (by omega)
                have j3 : ¬ (0 : Int) < (i : Int) := by omega
                have j4 : ¬ 0 < i := by omega
                clear HI HDR hxx hm hz e2 hi0
                go_upto_region 11 with (go_at_call 29; (with_reducible refine HWX.out.mono ?_); rintro e0 W5 ⟨rfl, rfl⟩)
                go_quiet (fail)
                go_wp2_with fail
                go_roundg g
                case measure => omega
                case rel => exact ⟨i + 1, by omega, by go_num, HN, Lib.hid (by first | exact HB.out.drew | exact below_drewM HB.out _)⟩
              · obtain ⟨i, rfl⟩ : ∃ k, i = k + 1 := ⟨i - 1, by omega⟩
                obtain ⟨y, hyy⟩ : ∃ y, l[i]? = some y := ⟨_, List.getElem?_eq_getElem (by omega)⟩
                have hmy := List.mem_of_getElem? hyy
                obtain ⟨b', off', c'', hv, k2⟩ := (HRD.out.keep HB.out).at hyy
                injection hv with f1 f2 f3
                injection f1 with f1
                injection f1 with g1 g2
                subst g1
                subst g2
                clear f2 f3 hi0
                by_cases t0 : 0 ≤ cmpW y x
                · have HCX := Lib.hid (fun W => by have k := HLS.out W y x hmy hm; rw [show decide (cmpW y x < 0) = false from decide_eq_false (by omega)] at k; exact k)
                  have HE := Lib.hid (show Z = 10 by rw [← HI.out, HDR, prevW_succ hyy, clF_ord hz t0])
                  clear HI HDR hxx hm hmy hz e2 hyy t0
                  go_upto_region 11 with (go_at_call 29; (with_reducible refine HWX.out.mono ?_); rintro e0 W5 ⟨rfl, rfl⟩)
                  go_quiet ((go_at_call 35; refine Calls.quiet_of_same (HCX.out _)))
                  go_wp2_with fail
                  go_ret
                  exact ⟨by rw [HE.out]; try rfl, below_drewM HB.out _⟩
                · have HCX := Lib.hid (fun W => by have k := HLS.out W y x hmy hm; rw [show decide (cmpW y x < 0) = true from decide_eq_true (by omega)] at k; exact k)
                  have HN := Lib.hid (show clF q true (prevW l (i + 1 + 1)) (l.drop (i + 1 + 1)) = Z by rw [prevW_succ hxx, ← clF_step (p := prevW l (i + 1)) hz (by intro _ y' hy; rw [prevW_succ hyy] at hy; injection hy with hy; subst hy; omega), ← HDR]; exact HI.out)
                  clear HI HDR hxx hm hmy hz e2 hyy t0
                  go_upto_region 11 with (go_at_call 29; (with_reducible refine HWX.out.mono ?_); rintro e0 W5 ⟨rfl, rfl⟩)
                  go_quiet ((go_at_call 35; refine Calls.quiet_of_same (HCX.out _)))
                  go_wp2_with fail
                  go_roundg g
                  case measure => omega
                  case rel => exact ⟨i + 1 + 1, by omega, by go_num, HN, Lib.hid (by first | exact HB.out.drew | exact below_drewM HB.out _)⟩
            · have HE := Lib.hid (show Z = z by rw [← HI.out, HDR, clF_bad (by rw [hz]; exact h0), hz])
              have d2 : (z != 0) = true := by simpa using h0
              clear HI HDR hxx hm hz h0 e2
              go_wp2_with (go_at_call 29; (with_reducible refine HWX.out.mono ?_); rintro e0 W5 ⟨rfl, rfl⟩)
              go_ret
              exact ⟨by rw [HE.out]; try rfl, HB.out⟩
    · have HE := Lib.hid (show Z = 12 by rw [← HZ.out]; unfold clW; rw [if_neg (by omega)])
      have dq1 : decide (q < 1) = false := decide_eq_false (by omega)
      have dq2 : decide (16 < q) = true := decide_eq_true (by omega)
      clear HZ
      go_enter Tryd.func12, Tryd.ntmps12
      go_wp2_with fail
      go_ret
      exact ⟨by rw [HE.out]; try rfl, Below.refl _ _⟩
  · have HE := Lib.hid (show Z = 12 by rw [← HZ.out]; unfold clW; rw [if_neg (by omega)])
    have dq1 : decide (q < 1) = true := decide_eq_true (by omega)
    clear HZ
    go_enter Tryd.func12, Tryd.ntmps12
    go_wp2_with fail
    go_ret
    exact ⟨by rw [HE.out]; try rfl, Below.refl _ _⟩
end Go.Proofs.YtkpmapeapiodcaaDoor

namespace Go.Proofs.YtkpmapeapiodcaaDoor
open Go.RowKit Go.Shelf
set_option linter.unusedSimpArgs false
set_option linter.unusedVariables false

def allW (q : Int) (l : List Wd) (x : Wd) : Bool × Int := if clW q true l = 0 then (if chk q x = 0 then (alwB l x, 0) else (false, chk q x)) else (false, 1)
set_option maxRecDepth 100000 in
set_option maxHeartbeats 3200000 in
theorem allowedG_any (q : Int) (l : List Wd) (x : Wd) (v : Value) (w : World) (hrd : WdsRd w v l) (hl : l.length ≤ 100000) (hls : ∀ x ∈ l, x.length ≤ 9223372036854775807) (hx : x.length ≤ 9223372036854775807) :
    Calls Tryd.prog 9 #[.int .i64 q, v, .string ⟨x.toArray⟩] w fun e w' => e = .returned (.tuple #[.bool (allW q l x).1, .int .i64 (allW q l x).2]) ∧ Below w.heap.size w w' := by
  unfold allW
  by_cases hc : clW q true l = 0
  · rw [if_pos hc]
    by_cases hw : chk q x = 0
    · rw [if_pos hw]
      exact allowed_any q l x v w hrd hl hls hx hc hw
    · rw [if_neg hw]
      have HC := Lib.hid (checkF_any q l v w hrd hl hls)
      rw [hc] at HC
      have HW := Lib.hid (fun W => wcheck_any q x W hx)
      obtain ⟨z, hz⟩ : ∃ z, chk q x = z := ⟨_, rfl⟩
      rw [hz] at HW hw ⊢
      have hb : (z == 0) = false := by rw [beq_eq_false_iff_ne]; exact hw
      obtain ⟨a, c, rfl⟩ := hrd.form
      clear hrd hz hc hls
      go_enter Tryd.func9, Tryd.ntmps9
      go_wp2_with (first
        | (go_at_call 11; (with_reducible refine HC.out.mono ?_); rintro e W1 ⟨rfl, b1⟩; (have B1 := Lib.hid b1); clear b1)
        | (go_at_call 20; (with_reducible refine (HW.out _).mono ?_); rintro e W2 ⟨rfl, b2⟩; (have B2 := Lib.hid (below_more B1.out (Nat.le_refl _) b2)); clear b2))
      exact bodyPost_ret (v := .tuple #[.bool false, .int .i64 z]) (by simp [results, Tryd.results9, go_sem]) rfl ⟨rfl, B2.out⟩
  · rw [if_neg hc]
    have HC := Lib.hid (checkF_any q l v w hrd hl hls)
    obtain ⟨z, hz⟩ : ∃ z, clW q true l = z := ⟨_, rfl⟩
    rw [hz] at HC hc
    have hb : (z == 0) = false := by rw [beq_eq_false_iff_ne]; exact hc
    obtain ⟨a, c, rfl⟩ := hrd.form
    clear hrd hz hls
    go_enter Tryd.func9, Tryd.ntmps9
    go_wp2_with (go_at_call 11; (with_reducible refine HC.out.mono ?_); rintro e W1 ⟨rfl, b1⟩; (have B1 := Lib.hid b1); clear b1)
    exact bodyPost_ret (v := .tuple #[.bool false, .int .i64 1]) (by simp [results, Tryd.results9, go_sem]) rfl ⟨rfl, B1.out⟩
set_option maxRecDepth 100000 in
set_option maxHeartbeats 3200000 in
theorem rallowedG_any (q : Int) (l : List Wd) (x : Wd) (v : Value) (w : World) (hrd : WdsRd w v l) (hl : l.length ≤ 100000) (hls : ∀ x ∈ l, x.length ≤ 9223372036854775807) (hx : x.length ≤ 9223372036854775807) :
    Calls Tryd.prog 10 #[.int .i64 q, v, .string ⟨x.toArray⟩] w fun e w' => e = .returned (.tuple #[.bool (allW q l x).1, .int .i64 (allW q l x).2]) ∧ Below w.heap.size w w' := by
  unfold allW
  have HC := Lib.hid (rlist_any q l v w hrd hl hls)
  have HW := Lib.hid (fun W => refCheck_any q x W hx)
  have HA : Hid (∀ W, Below w.heap.size w W → x.length ≤ 100000 → Calls Tryd.prog 34 #[v, .string ⟨x.toArray⟩] W fun e w' => e = .returned (.bool (alwB l x)) ∧ w' = W) := Lib.hid (fun W hb h => rallowed_any l x v W (hrd.keep hb) hl hls h)
  obtain ⟨a, c, rfl⟩ := hrd.form
  obtain ⟨y, hy⟩ : ∃ y, clW q true l = y := ⟨_, rfl⟩
  rw [hy] at HC ⊢
  clear hrd hls hy
  by_cases hc : y = 0
  · subst hc
    rw [if_pos rfl]
    by_cases hw : chk q x = 0
    · rw [if_pos hw]
      have hx2 : x.length ≤ 100000 := by obtain ⟨_, _, _, _, h, _⟩ := chk_zero hw; omega
      rw [hw] at HW
      clear hw
      go_enter Tryd.func10, Tryd.ntmps10
      go_wp2_with (first
        | (go_at_call 12; (with_reducible refine HC.out.mono ?_); rintro e W1 ⟨rfl, b1⟩; (have B1 := Lib.hid b1); clear b1)
        | (go_at_call 33; (with_reducible refine (HW.out _).mono ?_); rintro e W2 ⟨rfl, h2⟩; (try subst h2))
        | (go_at_call 34; (with_reducible refine (HA.out _ B1.out hx2).mono ?_); rintro e W3 ⟨rfl, h3⟩; (try subst h3)))
      exact bodyPost_ret (v := .tuple #[.bool (alwB l x), .int .i64 0]) (by simp [results, Tryd.results10, go_sem]) rfl ⟨rfl, B1.out⟩
    · rw [if_neg hw]
      obtain ⟨z, hz⟩ : ∃ z, chk q x = z := ⟨_, rfl⟩
      rw [hz] at HW hw ⊢
      have hb : (z == 0) = false := by rw [beq_eq_false_iff_ne]; exact hw
      clear hz
      go_enter Tryd.func10, Tryd.ntmps10
      go_wp2_with (first
        | (go_at_call 12; (with_reducible refine HC.out.mono ?_); rintro e W1 ⟨rfl, b1⟩; (have B1 := Lib.hid b1); clear b1)
        | (go_at_call 33; (with_reducible refine (HW.out _).mono ?_); rintro e W2 ⟨rfl, h2⟩; (try subst h2)))
      exact bodyPost_ret (v := .tuple #[.bool false, .int .i64 z]) (by simp [results, Tryd.results10, go_sem]) rfl ⟨rfl, B1.out⟩
  · rw [if_neg hc]
    have hb : (y == 0) = false := by rw [beq_eq_false_iff_ne]; exact hc
    go_enter Tryd.func10, Tryd.ntmps10
    go_wp2_with (go_at_call 12; (with_reducible refine HC.out.mono ?_); rintro e W1 ⟨rfl, b1⟩; (have B1 := Lib.hid b1); clear b1)
    exact bodyPost_ret (v := .tuple #[.bool false, .int .i64 1]) (by simp [results, Tryd.results10, go_sem]) rfl ⟨rfl, B1.out⟩
end Go.Proofs.YtkpmapeapiodcaaDoor

namespace Go.Proofs.YtkpmapeapiodcaaDoor
set_option linter.unusedSimpArgs false
set_option linter.unusedVariables false

theorem insU_pw {r : List Wd} {w : Wd} {k : Nat} (hp : r.Pairwise ltW) (h1 : ∀ x, x ∈ r.take k → ltW x w) (h2 : ∀ x, r[k]? = some x → ltW w x) : (r.take k ++ w :: r.drop k).Pairwise ltW := by
  have hd : ∀ y, y ∈ r.drop k → ltW w y := by
    intro y hy
    obtain ⟨i, hi⟩ := List.getElem?_of_mem hy
    rw [List.getElem?_drop] at hi
    rcases Nat.eq_zero_or_pos i with h0 | h0
    · subst h0; exact h2 y hi
    · have hl := (List.getElem?_eq_some_iff.1 hi).1
      obtain ⟨x, hx⟩ : ∃ x, r[k]? = some x := ⟨_, List.getElem?_eq_getElem (by omega)⟩
      have hxy : ltW x y := by
        have := List.pairwise_iff_getElem.1 hp k (k + i) (by omega) hl (by omega)
        rw [(List.getElem?_eq_some_iff.1 hi).2, (List.getElem?_eq_some_iff.1 hx).2] at this
        exact this
      exact ltW_tr _ _ _ (h2 x hx) hxy
  have hs : (r.take k ++ r.drop k).Pairwise ltW := by rw [List.take_append_drop]; exact hp
  obtain ⟨p1, p2, p3⟩ := List.pairwise_append.1 hs
  refine List.pairwise_append.2 ⟨p1, List.pairwise_cons.2 ⟨hd, p2⟩, fun a ha b hb => ?_⟩
  rcases List.mem_cons.1 hb with rfl | hb
  · exact h1 a ha
  · exact p3 a ha b hb
theorem insU_mem {r : List Wd} {w x : Wd} {k : Nat} : x ∈ r.take k ++ w :: r.drop k ↔ x ∈ r ∨ x = w := by
  have h : x ∈ r ↔ x ∈ r.take k ∨ x ∈ r.drop k := by rw [← List.mem_append, List.take_append_drop]
  rw [List.mem_append, List.mem_cons, h]
  constructor
  · rintro (h | h | h)
    · exact .inl (.inl h)
    · exact .inr h
    · exact .inl (.inr h)
  · rintro ((h | h) | h)
    · exact .inl h
    · exact .inr (.inr h)
    · exact .inr (.inl h)
def InsW (r : List Wd) (w : Wd) (s : List Wd) : Prop := s.Pairwise ltW ∧ ∀ x, x ∈ s ↔ x ∈ r ∨ x = w
theorem InsW.put {r : List Wd} {w : Wd} {k : Nat} (hp : r.Pairwise ltW) (h1 : ∀ x, x ∈ r.take k → ltW x w) (h2 : ∀ x, r[k]? = some x → ¬ ltW x w) (h3 : r[k]? ≠ some w) : InsW r w (r.take k ++ w :: r.drop k) :=
  ⟨insU_pw hp h1 (fun x hx => by
    rcases ltW_tri x w with h | h | h
    · exact absurd h (h2 x hx)
    · exact absurd (h ▸ hx) h3
    · exact h), fun x => insU_mem⟩
theorem InsW.old {r : List Wd} {w : Wd} {k : Nat} (hp : r.Pairwise ltW) (h : r[k]? = some w) : InsW r w r :=
  ⟨hp, fun x => ⟨.inl, fun h2 => by
    rcases h2 with h2 | rfl
    · exact h2
    · exact List.mem_of_getElem? h⟩⟩
def RedTo (l : List Wd) (i : Nat) (r : List Wd) : Prop := r.Pairwise ltW ∧ ∀ x, x ∈ r ↔ x ∈ l.take i ∧ minB l x = true
theorem RedTo.start (l : List Wd) : RedTo l 0 [] := ⟨List.Pairwise.nil, fun x => by simp⟩
theorem RedTo.skip {l r : List Wd} {i : Nat} {w : Wd} (h : RedTo l i r) (hw : l[i]? = some w) (hm : minB l w = false) : RedTo l (i + 1) r := by
  refine ⟨h.1, fun x => ?_⟩
  rw [h.2, List.take_add_one, hw, List.mem_append]
  constructor
  · rintro ⟨h1, h2⟩; exact ⟨.inl h1, h2⟩
  · rintro ⟨h1 | h1, h2⟩
    · exact ⟨h1, h2⟩
    · simp at h1; subst h1; rw [hm] at h2; cases h2
theorem RedTo.put {l r s : List Wd} {i : Nat} {w : Wd} (h : RedTo l i r) (hw : l[i]? = some w) (hm : minB l w = true) (hs : InsW r w s) : RedTo l (i + 1) s := by
  refine ⟨hs.1, fun x => ?_⟩
  rw [hs.2, h.2, List.take_add_one, hw, List.mem_append]
  constructor
  · rintro (⟨h1, h2⟩ | rfl)
    · exact ⟨.inl h1, h2⟩
    · exact ⟨.inr (by simp), hm⟩
  · rintro ⟨h1 | h1, h2⟩
    · exact .inl ⟨h1, h2⟩
    · simp at h1; exact .inr h1
theorem RedTo.done {l r : List Wd} (h : RedTo l l.length r) : RedW l r := by
  have h2 := h.2
  rw [List.take_length] at h2
  exact ⟨h.1, h2⟩
theorem minB_take {l : List Wd} {w u : Wd} {k : Nat} (hu : l[k]? = some u) : minB (l.take (k + 1)) w = (minB (l.take k) w && (u == w || !facB w u)) := by
  unfold minB
  rw [List.take_add_one, hu, List.all_append]
  simp
end Go.Proofs.YtkpmapeapiodcaaDoor
