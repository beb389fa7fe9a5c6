/- What grooveref14.insert returns: a word more, in order. Conditions: at most 100 words, in order, in an own row; lengths are those of strings. What grooveref14.Reduce returns. Conditions: the words can be read, are at most 10^5; lengths are those of strings. What the laws' rows and cards share: the tables, a world that holds them, and integers among the arguments. No condition. -/
import Derived.Test.YtkpmapeapiodcaaDoorQ05
import Derived.Test.YtkpmapeapiodcaaDoorQ16
import Derived.Test.YtkpmapeapiodcaaDoorQ07
import Derived.Test.YtkpmapeapiodcaaDoorQ09
import Derived.ArgAppend
import Derived.Deep.Upon
import Derived.Deep.AppendSrc
import Derived.Test.YtkpmapeapiodcaaDoorQ06
import Derived.BigQuiet
import Derived.Test.YtkpmapeapiodcaaDoorCards
import Derived.Test.YtkpmapeapiodcaaDoorTie
import Derived.WalkKit
import Derived.ProofKit
import Derived.OpenShut
import Derived.Deep.DeepHandedRow
import Derived.Lib.LaidTab
import Derived.Lib.ItoaNum
import Derived.Stop.LaidErr
import Derived.Below
import Derived.Lib.SmallJoins

namespace Go.Proofs.YtkpmapeapiodcaaDoor
open Go.RowKit Go.Maps
set_option linter.unusedSimpArgs false
set_option linter.unusedVariables false

theorem app_growF (W : World) (ty : TypeId) (b : Addr) (n cap : Nat) (ts us : List Wd) (a : Addr) (m c : Nat) (hn : ts.length = n) (hm : us.length = m)
    (h1 : ∀ (j : Nat) (u : Wd), ts[j]? = some u → W.cell? (b.add j) = some (.string ⟨u.toArray⟩)) (h2 : ∀ (j : Nat) (u : Wd), us[j]? = some u → W.cell? (a.add j) = some (.string ⟨u.toArray⟩)) (hg : cap < n + m) (hs : n + m ≤ 1000) :
    ∃ g d W', (Builtin.append_ #[22, 22] ty #[.slice (some b) n cap, .slice (some a) m c]).run Tryd.prog W = .ok (.slice (some ⟨g, 0, none⟩) (n + m) d) W' ∧ WdsAt W' W.heap.size (.slice (some ⟨g, 0, none⟩) (n + m) d) (ts ++ us) ∧ Below W.heap.size W W' := by
  obtain ⟨i0, hi, hz0, hz1, hz2⟩ := info_parts Tryd.infoStrF
  obtain ⟨v', w', hr, ho, hgr⟩ := run_append_arg_grows W 22 ty 9 i0 (.string ⟨#[]⟩) 1 16 Tryd.underlying22 hi hz0 hz1 hz2 rfl (by decide) b n cap (ts.map encStr) (by rw [List.length_map, hn, Nat.mul_one])
    (fun j u hu => by rw [List.getElem?_map] at hu; obtain ⟨x, hx, rfl⟩ := Option.map_eq_some_iff.1 hu; exact h1 j x hx) a m c (us.map encStr) (by rw [List.length_map, hm, Nat.mul_one])
    (fun j u hu => by rw [List.getElem?_map] at hu; obtain ⟨x, hx, rfl⟩ := Option.map_eq_some_iff.1 hu; exact h2 j x hx) hg (by unfold maxLen; omega) (by omega)
  obtain ⟨g, d, rfl, -⟩ := World.ownsRow.form ho (by omega)
  refine ⟨g, d, w', hr, ?_, ⟨hgr.os, hgr.tape, hgr.output, hgr.size, fun k hk => hgr.block k hk (fun e => by cases e)⟩⟩
  unfold WdsAt
  rw [List.length_append, hn, hm, List.map_append]
  exact ho
theorem app_oneF (W : World) (ty : TypeId) (p : Nat) (x : Wd) (us : List Wd) (a : Addr) (m c : Nat) (hm : us.length = m) (h1 : W.cell? ⟨p, 0, none⟩ = some (.string ⟨x.toArray⟩)) (h2 : ∀ (j : Nat) (u : Wd), us[j]? = some u → W.cell? (a.add j) = some (.string ⟨u.toArray⟩)) (hs : m ≤ 900) :
    ∃ g d W', (Builtin.append_ #[22, 22] ty #[.slice (some ⟨p, 0, none⟩) 1 1, .slice (some a) m c]).run Tryd.prog W = .ok (.slice (some ⟨g, 0, none⟩) (1 + m) d) W' ∧ (∀ (j : Nat) (u : Wd), (x :: us)[j]? = some u → W'.cell? ((⟨g, 0, none⟩ : Addr).add j) = some (.string ⟨u.toArray⟩)) ∧ Below W.heap.size W W' := by
  obtain ⟨i0, hi, -, -, -⟩ := info_parts Tryd.infoStrF
  have h0 : ∀ (j : Nat) (u : Wd), [x][j]? = some u → W.cell? ((⟨p, 0, none⟩ : Addr).add j) = some (.string ⟨u.toArray⟩) := fun j u hu => by
    cases j with
    | zero => obtain rfl : x = u := by simpa using hu
              exact h1
    | succ j => simp at hu
  by_cases h : m = 0
  · subst h
    obtain rfl := List.eq_nil_of_length_eq_zero hm
    refine ⟨p, 1, W, ?_, h0, Below.refl _ _⟩
    exact run_append_nothing W 22 22 ty 9 i0 Tryd.underlying22 hi (some ⟨p, 0, none⟩) 1 1 (Nat.le_refl _) _ (Src.ofSlice W Tryd.underlying22 a 0 c [] (by simp) (by simp) (by simp))
  · obtain ⟨g, d, W', k1, k2, k3⟩ := app_growF W ty ⟨p, 0, none⟩ 1 1 [x] us a m c rfl hm h0 h2 (by omega) (by omega)
    refine ⟨g, d, W', k1, fun j u hu => ?_, k3⟩
    have hl : ([x] ++ us).length = 1 + m := by rw [List.length_append, hm]; rfl
    rw [show (⟨g, 0, none⟩ : Addr).add j = ⟨g, 0 + j, none⟩ from Go.WideShapes.add_plain g 0 j, Nat.zero_add]
    rw [← hl] at k2
    exact WdsAt.cell k2 hu
theorem step_app_run {P : Program} {ops : Array Oper} {o : Oper} {a : Act} {K : Act → World → Prop} {Q : Exit → Act → World → Prop} {E : Prop} {w W' : World} (hgd : o.guard = none) (s x : Operand) (t : TypeId)
    (ho : o.op = .call { callee := .builtin .append, args := #[s, x], argTypes := #[t, t] }) (v1 v2 u : Value) (hs : a.eval s = v1) (hx : a.eval x = v2) (hr : (Builtin.append_ #[t, t] o.type #[v1, v2]).run P w = .ok u W') (h : K (a.put o.dst u) W') :
    if Region.wanted o (yielded ops a.tmps) = true then Oper.wp P o a w K Q else E := by
  have hw : Region.wanted o (yielded ops a.tmps) = true := by simp [Region.wanted, hgd]
  rw [if_pos hw]
  unfold Oper.wp execOp
  simp only [ho, resolve, invoke, builtin, Sem.run_bind, Sem.run_pure, Result.andThen_ok, List.map_toArray, List.map_cons, List.map_nil, hs, hx, hr]
  exact h
theorem slF (g n c i : Nat) (hi : i ≤ n) (hc : n ≤ c) (hm : c ≤ 9223372036854775807) : ∃ a d, (∀ W, (Instr.slice 22 (.slice (some ⟨g, 0, none⟩) n c) (some (.int .i64 (i : Int))) none none).run Tryd.prog W = .ok (.slice (some a) (n - i) d) W) ∧ (i < n → a = ⟨g, i, none⟩) := by
  refine ⟨if c = i then ⟨g, 0, none⟩ else ⟨g, i, none⟩, c - i, fun W => ?_, fun h => if_neg (by omega)⟩
  go_simp
  split <;> rfl
set_option maxRecDepth 100000 in
set_option maxHeartbeats 12800000 in
theorem rinsert_any (r : List Wd) (x : Wd) (g c B : Nat) (w : World) (hr : WdsAt w B (.slice (some ⟨g, 0, none⟩) r.length c) r) (hB : B ≤ w.heap.size) (hp : r.Pairwise ltW) (hl : r.length ≤ 100) (hls : ∀ u ∈ r, u.length ≤ 9223372036854775807) (hx : x.length ≤ 9223372036854775807) :
    Calls Tryd.prog 31 #[.slice (some ⟨g, 0, none⟩) r.length c, .string ⟨x.toArray⟩] w fun e w' => ∃ s g' c', e = .returned (.slice (some ⟨g', 0, none⟩) s.length c') ∧ WdsAt w' B (.slice (some ⟨g', 0, none⟩) s.length c') s ∧ InsW r x s ∧ Below w.heap.size w w' := by
  have hmx : Tryd.prog.follows .mixedOrders = true := by kernel_rfl
  have HR := Lib.hid hr
  have HP := Lib.hid hp
  have HBB := Lib.hid hB
  have hcc : r.length ≤ c ∧ c ≤ 9223372036854775807 := by
    rcases hr.2 with ⟨h, -⟩ | ⟨g1, cap, cur, h1, -, -, h2, h3, -⟩
    · cases h
    · injection h1 with e1 e2 e3
      subst e3
      unfold maxLen at h3
      exact ⟨h2, h3⟩
  obtain ⟨hc1, hc2⟩ := hcc
  have HLE := Lib.hid (fun W u (hu : u ∈ r) => rless_any u x W (hls u hu) hx)
  have T0 := Lib.hid (show ∀ u ∈ r.take 0, ltW u x by simp)
  have HCE := Lib.hid (fun (i : Nat) (u : Wd) (hu : r[i]? = some u) => WdsAt.cell hr hu)
  obtain ⟨n, hn⟩ : ∃ n, r.length = n := ⟨_, rfl⟩
  have HN := Lib.hid hn
  rw [hn] at hl hc1 ⊢
  obtain ⟨X, hX⟩ : ∃ X : ByteArray, (⟨x.toArray⟩ : ByteArray) = X := ⟨_, rfl⟩
  have HXX := Lib.hid hX
  rw [hX] at HLE ⊢
  clear hr hp hB hls hn hX
  go_enter Tryd.func31, Tryd.ntmps31
  go_wp2_with fail
  go_loopg [5] n (fun q s5 wx => ∃ i : Nat, i + q = n ∧ s5 = .int .i64 (i : Int) ∧ Hid (∀ u ∈ r.take i, ltW u x) ∧ wx = w)
  case atStart => exact ⟨0, by omega, rfl, T0, rfl⟩
  case round =>
    clear T0
    obtain ⟨i, hi, rfl, HT, rfl⟩ := hrel
    obtain ⟨a, d, hsl, ha⟩ := slF g n c i (by omega) hc1 hc2
    have hp0 : (wr.alloc (.cells #[.string X] 9)).drew.cell? ⟨wr.heap.size, 0, none⟩ = some (.string ⟨x.toArray⟩) := by rw [HXX.out]; exact cell_one_new wr (.string X) 9 0 _ rfl
    have b0 := below1 wr (.cells #[.string X] 9)
    have hdl : (r.drop i).length = n - i := by rw [List.length_drop, HN.out]
    obtain ⟨g9, d9, W2, h9, k9, b9⟩ := app_oneF (wr.alloc (.cells #[.string X] 9)).drew 22 wr.heap.size x (r.drop i) a (n - i) d hdl hp0 (fun j u hu => by
      rw [List.getElem?_drop] at hu
      have hlt := (List.getElem?_eq_some_iff.1 hu).1
      rw [HN.out] at hlt
      rw [ha (by omega), Go.WideShapes.add_plain]
      exact cell_keep (HCE.out (i + j) u hu) b0.drew) (by omega)
    have b2 := below_more b0.drew (Nat.le_refl _) b9
    have htl : (r.take i).length = i := by rw [List.length_take, HN.out]; omega
    obtain ⟨g10, d10, W3, h10, k10, b10⟩ := app_growF W2 22 ⟨g, 0, none⟩ i i (r.take i) (x :: r.drop i) ⟨g9, 0, none⟩ (1 + (n - i)) d9 htl (by rw [List.length_cons, hdl]; omega) (fun j u hu => by
      have hj : j < i := by have := (List.getElem?_eq_some_iff.1 hu).1; omega
      rw [List.getElem?_take_of_lt hj] at hu
      rw [Go.WideShapes.add_plain, Nat.zero_add]
      exact cell_keep (HCE.out j u hu) b2) k9 (by omega) (by omega)
    have B3 := Lib.hid (below_more b2 (Nat.le_refl _) b10)
    have hsl2 : (r.take i ++ x :: r.drop i).length = i + (1 + (n - i)) := by rw [List.length_append, htl, List.length_cons, hdl]; omega
    have K10 := Lib.hid (show WdsAt W3 B (.slice (some ⟨g10, 0, none⟩) (r.take i ++ x :: r.drop i).length d10) (r.take i ++ x :: r.drop i) by rw [hsl2]; exact own_low k10 (Nat.le_trans HBB.out b2.size))
    have HS2 := Lib.hid hsl2
    clear k9 b0 b9 b10 k10 hdl htl hsl2 hp0 ha b2
    obtain ⟨m, hm⟩ : ∃ m, n - i = m := ⟨_, rfl⟩
    rw [hm] at hsl h9 h10 HS2
    clear hm
    have hic : i ≤ c := by omega
    have hS0 : (fun _ : World => True) wr.drew := trivial
    rcases gk with _ | q
    · have j0 : ¬ ((i : Int) < (n : Int)) := by omega
      have HIN := Lib.hid (InsW.put (k := i) HP.out HT.out (fun u hu => by have := (List.getElem?_eq_some_iff.1 hu).1; rw [HN.out] at this; omega) (fun h => by have := (List.getElem?_eq_some_iff.1 h).1; rw [HN.out] at this; omega))
      go_wp2_with fail
      refine regionT (T := T2 11 11 (fun _ : World => True) (fun _ : World => True)) hmx ?_
      have hR := hS0
      refine take1 (i := 0) (v := ?_) rfl (by kernel_rfl) (by kernel_rfl) (by kernel_rfl) (by kernel_rfl) (by kernel_rfl) (by decide) (by decide) (fun _ _ _ h => h) (Or.inl ⟨by rfl, ?_⟩) hR hR ?_
      rotate_left
      · intro w hSw
        (try dsimp only at hSw)
        go_simp
        all_goals with_reducible rfl
      (try simp only [Act.put, List.setIfInBounds_toArray, List.set_cons_zero, List.set_cons_succ])
      refine take1 (i := 1) (v := ?_) rfl (by kernel_rfl) (by kernel_rfl) (by kernel_rfl) (by kernel_rfl) (by kernel_rfl) (by decide) (by decide) (fun _ _ _ h => h) (Or.inl ⟨by rfl, ?_⟩) hR hR ?_
      rotate_left
      · intro w hSw
        (try dsimp only at hSw)
        go_simp
        all_goals with_reducible rfl
      (try simp only [Act.put, List.setIfInBounds_toArray, List.set_cons_zero, List.set_cons_succ])
      refine take1 (i := 2) (v := ?_) rfl (by kernel_rfl) (by kernel_rfl) (by kernel_rfl) (by kernel_rfl) (by kernel_rfl) (by decide) (by decide) (fun _ _ _ h => h) (Or.inl ⟨by rfl, ?_⟩) hR hR ?_
      rotate_left
      · intro w hSw
        (try dsimp only at hSw)
        go_simp
        all_goals with_reducible rfl
      (try simp only [Act.put, List.setIfInBounds_toArray, List.set_cons_zero, List.set_cons_succ])
      refine take1 (i := 3) (v := ?_) rfl (by kernel_rfl) (by kernel_rfl) (by kernel_rfl) (by kernel_rfl) (by kernel_rfl) (by decide) (by decide) (fun _ _ _ h => h) (Or.inl ⟨by rfl, ?_⟩) hR hR ?_
      rotate_left
      · intro w hSw
        (try dsimp only at hSw)
        go_simp
        all_goals with_reducible rfl
      (try simp only [Act.put, List.setIfInBounds_toArray, List.set_cons_zero, List.set_cons_succ])
      refine take1 (i := 4) (v := ?_) rfl (by kernel_rfl) (by kernel_rfl) (by kernel_rfl) (by kernel_rfl) (by kernel_rfl) (by decide) (by decide) (fun _ _ _ h => h) (Or.inl ⟨by rfl, ?_⟩) hR hR ?_
      rotate_left
      · intro w hSw
        (try dsimp only at hSw)
        go_simp
        all_goals with_reducible rfl
      (try simp only [Act.put, List.setIfInBounds_toArray, List.set_cons_zero, List.set_cons_succ])
      refine take1 (i := 6) (v := ?_) rfl (by kernel_rfl) (by kernel_rfl) (by kernel_rfl) (by kernel_rfl) (by kernel_rfl) (by decide) (by decide) (fun _ _ _ h => h) (Or.inl ⟨by rfl, ?_⟩) hR hR ?_
      rotate_left
      · intro w hSw
        (try dsimp only at hSw)
        go_simp
        all_goals with_reducible rfl
      (try simp only [Act.put, List.setIfInBounds_toArray, List.set_cons_zero, List.set_cons_succ])
      refine take1 (i := 7) (v := ?_) rfl (by kernel_rfl) (by kernel_rfl) (by kernel_rfl) (by kernel_rfl) (by kernel_rfl) (by decide) (by decide) (fun _ _ _ h => h) (Or.inl ⟨by rfl, ?_⟩) hR hR ?_
      rotate_left
      · intro w hSw
        (try dsimp only at hSw)
        go_simp
        all_goals with_reducible rfl
      (try simp only [Act.put, List.setIfInBounds_toArray, List.set_cons_zero, List.set_cons_succ])
      refine take1 (i := 8) (v := ?_) rfl (by kernel_rfl) (by kernel_rfl) (by kernel_rfl) (by kernel_rfl) (by kernel_rfl) (by decide) (by decide) (fun _ _ _ h => h) (Or.inl ⟨by rfl, ?_⟩) hR hR ?_
      rotate_left
      · intro w hSw
        (try dsimp only at hSw)
        go_simp
        all_goals with_reducible rfl
      (try simp only [Act.put, List.setIfInBounds_toArray, List.set_cons_zero, List.set_cons_succ])
      refine stepT (i := 5) (by kernel_rfl) rfl (fun K hK => ?_)
      go_simp
      have hR5 := hR
      refine hK.out _ _ ⟨fun _ => hR5, fun _ => hR5⟩ ?_
      clear hK K hR
      have hR := hR5
      (try simp only [Act.put, List.setIfInBounds_toArray, List.set_cons_zero, List.set_cons_succ])
      refine stepT (i := 9) (by kernel_rfl) rfl (fun K hK => ?_)
      refine step_app_run (by rfl) (.tmp 38) (.tmp 41) 22 (by rfl) _ _ _ (by rfl) (by rfl) h9 ?_
      have hR6 := hR
      refine hK.out _ _ ⟨fun _ => hR6, fun _ => hR6⟩ ?_
      clear hK K hR
      have hR := hR6
      (try simp only [Act.put, List.setIfInBounds_toArray, List.set_cons_zero, List.set_cons_succ])
      refine stepT (i := 10) (by kernel_rfl) rfl (fun K hK => ?_)
      refine step_app_run (by rfl) (.tmp 36) (.tmp 42) 22 (by rfl) _ _ _ (by rfl) (by rfl) h10 ?_
      have hR7 := hR
      refine hK.out _ _ ⟨fun _ => hR7, fun _ => hR7⟩ ?_
      clear hK K hR
      have hR := hR7
      (try simp only [Act.put, List.setIfInBounds_toArray, List.set_cons_zero, List.set_cons_succ])
      refine stepT (i := 11) (by kernel_rfl) rfl (fun K hK => ?_)
      go_simp
      refine hK.out _ _ ⟨fun h => absurd h (by decide), fun h => absurd h (by decide)⟩ ?_
      clear hK K
      (try simp only [Act.put, List.setIfInBounds_toArray, List.set_cons_zero, List.set_cons_succ])
      refine doneT (by kernel_rfl) ?_ _
      go_wp2_with fail
      go_ret
      exact ⟨_, _, _, by rw [HS2.out]; rfl, K10.out, HIN.out, B3.out⟩
    · obtain ⟨y, hy⟩ : ∃ y, r[i]? = some y := ⟨_, List.getElem?_eq_getElem (by rw [HN.out]; omega)⟩
      have j1 : (i : Int) < (n : Int) := by omega
      have k1 := HCE.out i y hy
      have HLY := Lib.hid (HLE.out wr y (List.mem_of_getElem? hy))
      have HTK := Lib.hid (show r.take (i + 1) = r.take i ++ [y] by rw [List.take_add_one, hy]; rfl)
      by_cases hlt : cmpW y x < 0
      · rw [decide_eq_true hlt] at HLY
        have HT2 := Lib.hid (show ∀ u ∈ r.take (i + 1), ltW u x by
          rw [HTK.out]
          intro u hu
          rw [List.mem_append, List.mem_singleton] at hu
          rcases hu with hu | rfl
          · exact HT.out u hu
          · exact cmpW_neg.1 hlt)
        clear hy HT hlt
        go_wp2_with (go_at_call 35; (with_reducible refine HLY.out.mono ?_); rintro e1 W6 ⟨rfl, hw⟩; (try subst hw))
        go_roundg q
        case measure => omega
        case rel => exact ⟨i + 1, by omega, by go_num, HT2, rfl⟩
      · rw [decide_eq_false hlt] at HLY
        by_cases hxy : y = x
        · subst hxy
          have HIN := Lib.hid (InsW.old HP.out hy)
          rw [HXX.out] at k1 HLY
          clear hy HT hlt
          go_wp2_with (go_at_call 35; (with_reducible refine HLY.out.mono ?_); rintro e1 W6 ⟨rfl, hw⟩; (try subst hw))
          go_ret
          exact ⟨r, g, c, by rw [HN.out]; rfl, HR.out, HIN.out, Below.refl _ _⟩
        · have HIN := Lib.hid (InsW.put (k := i) HP.out HT.out (fun u hu h => by rw [hy] at hu; injection hu with hu; subst hu; exact hlt (cmpW_neg.2 h)) (fun h => by rw [hy] at h; injection h with h; exact hxy h))
          have hne : (⟨y.toArray⟩ : ByteArray) ≠ X := fun h => hxy (by have h2 := congrArg (fun b : ByteArray => b.data.toList) (h.trans HXX.out.symm); simpa using h2)
          have hXl : X.toList = x := by rw [← HXX.out]; first | rfl | simp | (rw [ByteArray.toList_eq]) | skip
          have hbe : (y == X.toList) = false := by rw [hXl, beq_eq_false_iff_ne]; exact hxy
          clear hy HT hlt hxy hXl
          go_wp2_with (go_at_call 35; (with_reducible refine HLY.out.mono ?_); rintro e1 W6 ⟨rfl, hw⟩; (try subst hw))
          refine regionT (T := T2 11 11 (fun _ : World => True) (fun _ : World => True)) hmx ?_
          have hR := hS0
          refine take1 (i := 0) (v := ?_) rfl (by kernel_rfl) (by kernel_rfl) (by kernel_rfl) (by kernel_rfl) (by kernel_rfl) (by decide) (by decide) (fun _ _ _ h => h) (Or.inl ⟨by rfl, ?_⟩) hR hR ?_
          rotate_left
          · intro w hSw
            (try dsimp only at hSw)
            go_simp
            all_goals with_reducible rfl
          (try simp only [Act.put, List.setIfInBounds_toArray, List.set_cons_zero, List.set_cons_succ])
          refine take1 (i := 1) (v := ?_) rfl (by kernel_rfl) (by kernel_rfl) (by kernel_rfl) (by kernel_rfl) (by kernel_rfl) (by decide) (by decide) (fun _ _ _ h => h) (Or.inl ⟨by rfl, ?_⟩) hR hR ?_
          rotate_left
          · intro w hSw
            (try dsimp only at hSw)
            go_simp
            all_goals with_reducible rfl
          (try simp only [Act.put, List.setIfInBounds_toArray, List.set_cons_zero, List.set_cons_succ])
          refine take1 (i := 2) (v := ?_) rfl (by kernel_rfl) (by kernel_rfl) (by kernel_rfl) (by kernel_rfl) (by kernel_rfl) (by decide) (by decide) (fun _ _ _ h => h) (Or.inl ⟨by rfl, ?_⟩) hR hR ?_
          rotate_left
          · intro w hSw
            (try dsimp only at hSw)
            go_simp
            all_goals with_reducible rfl
          (try simp only [Act.put, List.setIfInBounds_toArray, List.set_cons_zero, List.set_cons_succ])
          refine take1 (i := 3) (v := ?_) rfl (by kernel_rfl) (by kernel_rfl) (by kernel_rfl) (by kernel_rfl) (by kernel_rfl) (by decide) (by decide) (fun _ _ _ h => h) (Or.inl ⟨by rfl, ?_⟩) hR hR ?_
          rotate_left
          · intro w hSw
            (try dsimp only at hSw)
            go_simp
            all_goals with_reducible rfl
          (try simp only [Act.put, List.setIfInBounds_toArray, List.set_cons_zero, List.set_cons_succ])
          refine take1 (i := 4) (v := ?_) rfl (by kernel_rfl) (by kernel_rfl) (by kernel_rfl) (by kernel_rfl) (by kernel_rfl) (by decide) (by decide) (fun _ _ _ h => h) (Or.inl ⟨by rfl, ?_⟩) hR hR ?_
          rotate_left
          · intro w hSw
            (try dsimp only at hSw)
            go_simp
            all_goals with_reducible rfl
          (try simp only [Act.put, List.setIfInBounds_toArray, List.set_cons_zero, List.set_cons_succ])
          refine take1 (i := 6) (v := ?_) rfl (by kernel_rfl) (by kernel_rfl) (by kernel_rfl) (by kernel_rfl) (by kernel_rfl) (by decide) (by decide) (fun _ _ _ h => h) (Or.inl ⟨by rfl, ?_⟩) hR hR ?_
          rotate_left
          · intro w hSw
            (try dsimp only at hSw)
            go_simp
            all_goals with_reducible rfl
          (try simp only [Act.put, List.setIfInBounds_toArray, List.set_cons_zero, List.set_cons_succ])
          refine take1 (i := 7) (v := ?_) rfl (by kernel_rfl) (by kernel_rfl) (by kernel_rfl) (by kernel_rfl) (by kernel_rfl) (by decide) (by decide) (fun _ _ _ h => h) (Or.inl ⟨by rfl, ?_⟩) hR hR ?_
          rotate_left
          · intro w hSw
            (try dsimp only at hSw)
            go_simp
            all_goals with_reducible rfl
          (try simp only [Act.put, List.setIfInBounds_toArray, List.set_cons_zero, List.set_cons_succ])
          refine take1 (i := 8) (v := ?_) rfl (by kernel_rfl) (by kernel_rfl) (by kernel_rfl) (by kernel_rfl) (by kernel_rfl) (by decide) (by decide) (fun _ _ _ h => h) (Or.inl ⟨by rfl, ?_⟩) hR hR ?_
          rotate_left
          · intro w hSw
            (try dsimp only at hSw)
            go_simp
            all_goals with_reducible rfl
          (try simp only [Act.put, List.setIfInBounds_toArray, List.set_cons_zero, List.set_cons_succ])
          refine stepT (i := 5) (by kernel_rfl) rfl (fun K hK => ?_)
          go_simp
          have hR5 := hR
          refine hK.out _ _ ⟨fun _ => hR5, fun _ => hR5⟩ ?_
          clear hK K hR
          have hR := hR5
          (try simp only [Act.put, List.setIfInBounds_toArray, List.set_cons_zero, List.set_cons_succ])
          refine stepT (i := 9) (by kernel_rfl) rfl (fun K hK => ?_)
          refine step_app_run (by rfl) (.tmp 38) (.tmp 41) 22 (by rfl) _ _ _ (by rfl) (by rfl) h9 ?_
          have hR6 := hR
          refine hK.out _ _ ⟨fun _ => hR6, fun _ => hR6⟩ ?_
          clear hK K hR
          have hR := hR6
          (try simp only [Act.put, List.setIfInBounds_toArray, List.set_cons_zero, List.set_cons_succ])
          refine stepT (i := 10) (by kernel_rfl) rfl (fun K hK => ?_)
          refine step_app_run (by rfl) (.tmp 36) (.tmp 42) 22 (by rfl) _ _ _ (by rfl) (by rfl) h10 ?_
          have hR7 := hR
          refine hK.out _ _ ⟨fun _ => hR7, fun _ => hR7⟩ ?_
          clear hK K hR
          have hR := hR7
          (try simp only [Act.put, List.setIfInBounds_toArray, List.set_cons_zero, List.set_cons_succ])
          refine stepT (i := 11) (by kernel_rfl) rfl (fun K hK => ?_)
          go_simp
          refine hK.out _ _ ⟨fun h => absurd h (by decide), fun h => absurd h (by decide)⟩ ?_
          clear hK K
          (try simp only [Act.put, List.setIfInBounds_toArray, List.set_cons_zero, List.set_cons_succ])
          refine doneT (by kernel_rfl) ?_ _
          go_wp2_with fail
          go_ret
          exact ⟨_, _, _, by rw [HS2.out]; rfl, K10.out, HIN.out, B3.out⟩
end Go.Proofs.YtkpmapeapiodcaaDoor

namespace Go.Proofs.YtkpmapeapiodcaaDoor
open Go.RowKit Go.Shelf
set_option linter.unusedSimpArgs false
set_option linter.unusedVariables false

def RROut (q : Int) (l : List Wd) (w : World) (e : Ending) (w' : World) : Prop := ∃ g c s, e = .returned (.tuple #[.slice (some ⟨g, 0, none⟩) s.length c, .int .i64 (clW q false l)]) ∧ WdsRd w' (.slice (some ⟨g, 0, none⟩) s.length c) s ∧ (clW q false l = 0 → RedW l s) ∧ (clW q false l ≠ 0 → s = []) ∧ Below w.heap.size w w'
theorem RROut.no {q z : Int} {l : List Wd} {w W : World} {g : Nat} (h : clW q false l = z) (hz : z ≠ 0) (hb : Below w.heap.size w W) : RROut q l w (.returned (.tuple #[.slice (some ⟨g, 0, none⟩) 0 0, .int .i64 z])) W :=
  ⟨g, 0, [], by rw [h]; rfl, ⟨_, _, rfl, fun i x hx => by cases hx⟩, fun h2 => absurd (h.symm.trans h2) hz, fun _ => rfl, hb⟩
theorem wds_none (W : World) : WdsAt (W.alloc (.cells #[] 9)) W.heap.size (.slice (some ⟨W.heap.size, 0, none⟩) 0 0) [] :=
  ⟨rfl, .inr ⟨W.heap.size, 0, #[], rfl, Nat.le_refl _, heap_alloc_new W _, Nat.le_refl _, Nat.zero_le _, rfl, rfl⟩⟩
set_option maxRecDepth 100000 in
set_option maxHeartbeats 6400000 in
theorem rreduce_any (q : Int) (l : List Wd) (v : Value) (w : World) (hrd : WdsRd w v l) (hl : l.length ≤ 100000) (hx : ∀ x ∈ l, x.length ≤ 9223372036854775807) :
    Calls Tryd.prog 8 #[.int .i64 q, v] w (RROut q l w) := by
  have HW := Lib.hid (fun W x (h : x ∈ l) => rone_any q x W (hx x h))
  have HRD := Lib.hid hrd
  obtain ⟨a, c, rfl⟩ := hrd.form
  clear hrd
  obtain ⟨n, hn⟩ : ∃ n, l.length = n := ⟨_, rfl⟩
  have HN := Lib.hid hn
  rw [hn] at hl HRD ⊢
  by_cases q1 : 1 ≤ q
  · by_cases q2 : q ≤ 16
    · have dq1 : decide (q < 1) = false := decide_eq_false (by omega)
      have dq2 : decide (16 < q) = false := decide_eq_false (by omega)
      by_cases h64 : 64 < n
      · have HE := Lib.hid (show clW q false l = 4 by unfold clW; rw [if_pos ⟨q1, q2⟩, if_pos (by omega)])
        have d1 : decide ((64 : Int) < (n : Int)) = true := decide_eq_true (by omega)
        clear h64 hn
        go_enter Tryd.func8, Tryd.ntmps8
        go_wp2_with fail
        exact bodyPost_ret (v := .tuple #[.slice (some ⟨w.heap.size, 0, none⟩) 0 0, .int .i64 4]) (by simp [results, Tryd.results8, go_sem]) rfl (RROut.no HE.out (by decide) (below1 w _))
      · have HZ2 := Lib.hid (show clW q false l = clF q false none l by unfold clW; rw [if_pos ⟨q1, q2⟩, if_neg (by omega)])
        have d1 : decide ((64 : Int) < (n : Int)) = false := decide_eq_false (by omega)
        have T0 := Lib.hid (wds_none w)
        have B0 := Lib.hid (below1 w (.cells #[] 9))
        have HIN := Lib.hid (fun (r : List Wd) (x : Wd) (g c : Nat) (W : World) (h : WdsAt W w.heap.size (.slice (some ⟨g, 0, none⟩) r.length c) r) (hb : Below w.heap.size w W) (hp : r.Pairwise ltW) (h2 : r.length ≤ 100) (h3 : ∀ u ∈ r, u.length ≤ 9223372036854775807) (h4 : x.length ≤ 9223372036854775807) => rinsert_any r x g c w.heap.size W h hb.size hp h2 h3 h4)
        clear hn
        go_enter Tryd.func8, Tryd.ntmps8
        go_wp2_with fail
        go_loopg [6, 7, 8, 9, 10] n (fun k s6 s7 s8 s9 s10 wx => ∃ (i : Nat) (r : List Wd) (g c : Nat), i + k = n ∧ s7 = .int .i64 (i : Int) ∧ s6 = .slice (some ⟨g, 0, none⟩) r.length c ∧ Hid (clF q false none l = clF q false (prevW l i) (l.drop i)) ∧ Hid (RedTo l i r) ∧ Hid (WdsAt wx w.heap.size (.slice (some ⟨g, 0, none⟩) r.length c) r) ∧ Hid (Below w.heap.size w wx))
        case atStart => exact ⟨0, [], w.heap.size, 0, by omega, rfl, rfl, Lib.hid rfl, Lib.hid (RedTo.start l), T0, B0⟩
        case round =>
          clear T0 B0
          obtain ⟨i, r, g, c5, hi, rfl, rfl, HI, HR, HT, HB⟩ := hrel
          obtain ⟨Wi, rfl⟩ : ∃ Wi, Wi = wr := ⟨_, rfl⟩
          rcases gk with _ | k
          · obtain rfl : i = n := by omega
            have HE := Lib.hid (show clW q false l = 0 by rw [HZ2.out, HI.out, ← HN.out, List.drop_length]; unfold clF; rfl)
            have HD := Lib.hid (show RedW l r from RedTo.done (by rw [HN.out]; exact HR.out))
            have j0 : ¬ ((i : Int) < (i : Int)) := by omega
            clear HI
            obtain ⟨L, hL⟩ : ∃ L, r.length = L := ⟨_, rfl⟩
            have HL := Lib.hid hL
            rw [hL] at HT ⊢
            clear hL
            go_wp2_with fail
            exact bodyPost_ret (v := .tuple #[.slice (some ⟨g, 0, none⟩) L c5, .int .i64 0]) (by simp [results, Tryd.results8, go_sem]) rfl ⟨g, c5, r, by rw [HE.out, HL.out], (by rw [HL.out]; exact HT.out : WdsAt Wi w.heap.size (.slice (some ⟨g, 0, none⟩) r.length c5) r).rd, fun _ => HD.out, fun h => absurd HE.out h, HB.out⟩
          · obtain ⟨x, hxx⟩ : ∃ x, l[i]? = some x := ⟨_, List.getElem?_eq_getElem (by rw [HN.out]; omega)⟩
            have hm := List.mem_of_getElem? hxx
            have hxl := hx x hm
            obtain ⟨b, off, c', hv, k1⟩ := ((by rw [HN.out]; exact HRD.out : WdsRd w (.slice a l.length c) l).keep HB.out).at hxx
            injection hv with e1 e2 e3
            subst e1
            subst e3
            have j1 : (i : Int) < (n : Int) := by omega
            have HWX := Lib.hid (HW.out Wi x hm)
            have HDR := dropW_at hxx
            by_cases h0 : cwW q x = 0
            · rw [h0] at HWX
              have HN2 := Lib.hid (show clF q false none l = clF q false (prevW l (i + 1)) (l.drop (i + 1)) by rw [HI.out, HDR, prevW_succ hxx, clF_step h0 (fun h => by cases h)])
              have HX := Lib.hid hxx
              have hrl : r.length ≤ 64 := by
                have h1 : r.Nodup := HR.out.1.imp (fun {a b} hab e => by subst e; exact ltW_irr _ hab)
                have h2 := nodup_leF h1 (fun y hy => (List.mem_of_mem_take ((HR.out.2 y).1 hy).1))
                rw [HN.out] at h2
                omega
              have hrx : ∀ u ∈ r, u.length ≤ 9223372036854775807 := fun u hu => hx u (List.mem_of_mem_take ((HR.out.2 u).1 hu).1)
              have HINS := Lib.hid (fun W h hb => HIN.out r x g c5 W h hb HR.out.1 (by omega) hrx hxl)
              have HFA := Lib.hid (fun W u (hu : u ∈ l) => rfactor_any x u W (by have := (cwW_ok h0).2; omega) (hx u hu))
              have HCE := Lib.hid (fun (j : Nat) (u : Wd) (hu : l[j]? = some u) => by have h := (by rw [HN.out]; exact HRD.out : WdsRd w (.slice (some ⟨b, off, none⟩) l.length c) l).keep HB.out; exact h.at hu)
              obtain ⟨L, hL⟩ : ∃ L, r.length = L := ⟨_, rfl⟩
              have HL := Lib.hid hL
              rw [hL] at HT HINS ⊢
              clear hL HDR hxx hm e2 HI hrl hrx hxl h0 HIN
              go_upto_region 13 with (go_at_call 29; (with_reducible refine HWX.out.mono ?_); rintro e0 W5 ⟨rfl, hw⟩; (try subst hw))
              go_wp2_with fail
              go_loopg [9, 10] n (fun k2 s9 s10 wx => ∃ j : Nat, j + k2 = n ∧ s10 = .int .i64 (j : Int) ∧ s9 = .bool (minB (l.take j) x) ∧ Hid (Below W5.heap.size W5 wx))
              case atStart => exact ⟨0, by omega, rfl, rfl, Lib.hid (Below.refl _ _)⟩
              case round =>
                obtain ⟨j, hj, rfl, rfl, HQ⟩ := hrel
                obtain ⟨W6, rfl⟩ : ∃ W6, W6 = wr := ⟨_, rfl⟩
                have k6 := cell_keep k1 HQ.out
                rcases gk with _ | k2
                · have j3 : ¬ ((j : Int) < (n : Int)) := by omega
                  have hfull : minB (l.take j) x = minB l x := by rw [show j = l.length by rw [HN.out]; omega, List.take_length]
                  rw [hfull]
                  have B5 := Lib.hid (below_more HB.out (Nat.le_refl _) HQ.out)
                  have T5 := Lib.hid (HT.out.keep HQ.out)
                  obtain ⟨M, hM⟩ : ∃ M, minB l x = M := ⟨_, rfl⟩
                  have HM := Lib.hid hM
                  rw [hM]
                  clear hM hfull
                  cases M with
                  | false =>
                    go_wp2_with fail
                    go_roundg k
                    case measure => omega
                    case rel => exact ⟨i + 1, r, g, c5, by omega, by go_num, by rw [HL.out], HN2, Lib.hid (HR.out.skip HX.out HM.out), Lib.hid (by rw [HL.out]; exact T5.out), B5⟩
                  | true =>
                    have HI6 := Lib.hid (HINS.out W6 T5.out B5.out)
                    go_wp2_with (go_at_call 31; (with_reducible refine HI6.out.mono ?_); rintro e0 W7 ⟨s, g7, c7, rfl, t7, ins, b7⟩; (have T7 := Lib.hid t7); (have IN := Lib.hid ins); (have B7 := Lib.hid (below_more B5.out (Nat.le_refl _) b7)); clear t7 ins b7)
                    go_roundg k
                    case measure => omega
                    case rel => exact ⟨i + 1, s, g7, c7, by omega, by go_num, rfl, HN2, Lib.hid (HR.out.put HX.out HM.out IN.out), T7, B7⟩
                · obtain ⟨u, hu⟩ : ∃ u, l[j]? = some u := ⟨_, List.getElem?_eq_getElem (by rw [HN.out]; omega)⟩
                  have j3 : (j : Int) < (n : Int) := by omega
                  obtain ⟨b2, off2, c6, hv, k2c⟩ := HCE.out j u hu
                  injection hv with e1 e2 e3
                  injection e1 with e1
                  injection e1 with e1 e4
                  subst e1
                  subst e4
                  have k7 := cell_keep k2c HQ.out
                  have HF := Lib.hid (fun W => HFA.out W u (List.mem_of_getElem? hu))
                  have HMT := Lib.hid (minB_take (w := x) hu)
                  obtain ⟨P, hP⟩ : ∃ P, minB (l.take j) x = P := ⟨_, rfl⟩
                  rw [hP] at HMT ⊢
                  clear hu e2 e3 hP
                  cases P with
                  | false =>
                    have HM2 := Lib.hid (show minB (l.take (j + 1)) x = false by rw [HMT.out, Bool.false_and])
                    go_upto_region 16 with fail
                    go_quiet (fail)
                    go_wp2_with fail
                    go_roundg k2
                    case measure => omega
                    case rel => exact ⟨j + 1, by omega, by go_num, by rw [HM2.out], Lib.hid (by first | exact HQ.out.drew | exact below_drewM HQ.out _)⟩
                  | true =>
                    by_cases hux : u = x
                    · subst hux
                      have HM2 := Lib.hid (show minB (l.take (j + 1)) u = true by rw [HMT.out]; simp)
                      go_upto_region 16 with fail
                      go_quiet (fail)
                      go_wp2_with fail
                      go_roundg k2
                      case measure => omega
                      case rel => exact ⟨j + 1, by omega, by go_num, by rw [HM2.out], Lib.hid (by first | exact HQ.out.drew | exact below_drewM HQ.out _)⟩
                    · have hbe : (u == x) = false := by rw [beq_eq_false_iff_ne]; exact hux
                      have HM2 := Lib.hid (show minB (l.take (j + 1)) x = !facB x u by rw [HMT.out, hbe]; simp)
                      obtain ⟨F, hF⟩ : ∃ F, facB x u = F := ⟨_, rfl⟩
                      rw [hF] at HF HM2
                      clear hF hux
                      cases F
                      all_goals go_upto_region 16 with fail
                      all_goals go_quiet ((go_at_call 30; refine Calls.quiet_of_same (HF.out _)))
                      all_goals go_wp2_with fail
                      · go_roundg k2
                        case measure => omega
                        case rel => exact ⟨j + 1, by omega, by go_num, by rw [HM2.out]; rfl, Lib.hid (by first | exact HQ.out.drew | exact below_drewM HQ.out _)⟩
                      · go_roundg k2
                        case measure => omega
                        case rel => exact ⟨j + 1, by omega, by go_num, by rw [HM2.out]; rfl, Lib.hid (by first | exact HQ.out.drew | exact below_drewM HQ.out _)⟩
            · obtain ⟨z, hz⟩ : ∃ z, cwW q x = z := ⟨_, rfl⟩
              have HE := Lib.hid (show clW q false l = z by rw [HZ2.out, HI.out, HDR, clF_bad h0, hz])
              rw [hz] at HWX h0
              have d2 : (z == 0) = false := by rw [beq_eq_false_iff_ne]; exact h0
              clear HI HDR hxx hm hz e2 HZ2
              obtain ⟨L, hL⟩ : ∃ L, r.length = L := ⟨_, rfl⟩
              rw [hL] at HT ⊢
              clear hL
              go_wp2_with (go_at_call 29; (with_reducible refine HWX.out.mono ?_); rintro e0 W5 ⟨rfl, hw⟩; (try subst hw))
              exact bodyPost_ret (v := .tuple #[.slice (some ⟨W5.heap.size, 0, none⟩) 0 0, .int .i64 z]) (by simp [results, Tryd.results8, go_sem]) rfl (RROut.no HE.out h0 (HB.out.alloc HB.out.size _))
    · have HE := Lib.hid (show clW q false l = 12 by unfold clW; rw [if_neg (by omega)])
      have dq1 : decide (q < 1) = false := decide_eq_false (by omega)
      have dq2 : decide (16 < q) = true := decide_eq_true (by omega)
      go_enter Tryd.func8, Tryd.ntmps8
      go_wp2_with fail
      exact bodyPost_ret (v := .tuple #[.slice (some ⟨w.heap.size, 0, none⟩) 0 0, .int .i64 12]) (by simp [results, Tryd.results8, go_sem]) rfl (RROut.no HE.out (by decide) (below1 w _))
  · have HE := Lib.hid (show clW q false l = 12 by unfold clW; rw [if_neg (by omega)])
    have dq1 : decide (q < 1) = true := decide_eq_true (by omega)
    go_enter Tryd.func8, Tryd.ntmps8
    go_wp2_with fail
    exact bodyPost_ret (v := .tuple #[.slice (some ⟨w.heap.size, 0, none⟩) 0 0, .int .i64 12]) (by simp [results, Tryd.results8, go_sem]) rfl (RROut.no HE.out (by decide) (below1 w _))
end Go.Proofs.YtkpmapeapiodcaaDoor

namespace Go.Proofs.YtkpmapeapiodcaaDoor
open Go.ChangeShapes Go.WideShapes Go.ChangeAt Go.RowKit
open Go.ChangeMaps (open_string shut_string)

theorem ownNone : ownKnob Tryd.prog.godebug = none := by kernel_rfl
def lst : List (String × DataW Unit) := [("unicode/utf8.acceptRanges", Rows.laid_unicode_utf8_acceptRanges), ("unicode/utf8.first", Rows.laid_unicode_utf8_first)]

def litCells : DataW Unit → List Value
  | .lit (.int k n) => [.int k n]
  | _ => []
def rowCells : DataW Unit → List Value
  | .agg ps => ps.flatMap litCells
  | d => litCells d
def tabCells : DataW Unit → List Value
  | .agg ps => ps.flatMap rowCells
  | d => litCells d
def layAt (g : Nat) (cs : List Value) (h : Array Obj) : Array Obj := h.modify g fun
  | .cells _ t fr => .cells cs.toArray t fr
  | o => o
noncomputable def laidWorld (os : Os) : World :=
  { World.holding Tryd.prog os ⟨#[], #[], []⟩ with heap := layAt 2 (tabCells Rows.laid_unicode_utf8_acceptRanges) (layAt 1 (tabCells Rows.laid_unicode_utf8_first) (World.holding Tryd.prog os ⟨#[], #[], []⟩).heap) }
set_option maxRecDepth 100000 in
theorem laid_met (os : Os) (args : Array Value) : laidMet Tryd.prog lst ((laidWorld os).forCall (fun _ _ => 0) ⟨#[], args, []⟩).memory :=
  laidMet_of_run' 8 (by kernel_rfl) (by kernel_rfl)

end Go.Proofs.YtkpmapeapiodcaaDoor
