/- What the reference implementation's Print of polynomials returns. Condition: at most 80 coefficients of at most 1000 bytes, below 2^3200. -/
import Derived.Test.YtgcogpfmhmmgdaaGreatDoorQ42

namespace Go.Proofs.YtgcogpfmhmmgdaaGreatDoor
open Go.RowKit Go.Shelf
set_option linter.unusedSimpArgs false
set_option linter.unusedVariables false

theorem tmx_from (L : List Int) : ∀ n, (trm L).length ≤ n → tmx L n = tmx L (trm L).length := by
  intro n
  induction n with
  | zero => intro h; rw [show (trm L).length = 0 by omega]
  | succ n ih =>
    intro h
    rcases Nat.eq_or_lt_of_le h with e | h1
    · rw [← e]
    · rw [tmx, dif_pos (trm_above L (by omega))]
      exact ih (by omega)
set_option maxRecDepth 100000 in
set_option maxHeartbeats 12800000 in
theorem refPrint_any (v : Value) (L : List Int) (w : World) (h : PolyR w v L) (hL : L.length ≤ 80) (hb : PB L 100) :
    Calls Tryz.prog 19 #[v] w fun e w' => e = .returned (.string ⟨(prL L).toArray⟩) ∧ Below w.heap.size w w' := by
  have hpr : ∀ x : Nat, (prZ ((co L x).natAbs : Int)).length ≤ 100000 := fun x => by
    have := prZ_len (z := ((co L x).natAbs : Int)) (k := 100) (by have := hb x; simpa using this)
    omega
  have hpn : ∀ x : Nat, x ≤ 1000 → (prZ (x : Int)).length ≤ 100000 := fun x hx => by
    have := prZ_len (z := (x : Int)) (k := 1) (by rw [Int.natAbs_natCast]; omega)
    omega
  have HPR := Lib.hid hpr
  have HPN := Lib.hid hpn
  have HPB := Lib.hid hb
  have tl := trm_len L
  have HLn := Lib.hid (fun pre => prW_len (L := L) (fun x => tmW_len (hpr x.1) (by have := x.lt; omega)) pre)
  have HTl := Lib.hid (fun x : Tm L => tmW_len (hpr x.1) (e := x.1) (by have := x.lt; omega))
  have HD0 := Lib.hid (fun W (b : Below w.heap.size w W) => refDeg_any v L W (h.keep b) (by omega))
  obtain ⟨A, c, g, s, rfl, hcell⟩ := h
  have H := Lib.hid hcell
  obtain ⟨n, hnT⟩ : ∃ n, (trm L).length = n := ⟨_, rfl⟩
  have HX := Lib.hid (show tmx L n = tmx L L.length by rw [← hnT]; exact (tmx_from L L.length tl).symm)
  simp only [show degZ L = (n : Int) - 1 by unfold degZ; rw [hnT]] at HD0
  rw [hnT] at tl
  clear hcell hnT hb hpr hpn
  go_enter Tryz.func19, Tryz.ntmps19
  go_wp2_with fail
  refine (HD0.out _ (Below.refl _ _)).mono ?_
  rintro e W0 ⟨rfl, b0⟩
  go_wp2_with fail
  go_loopg [3, 4] n (fun q s3 s4 wx => ∃ pre : List (Tm L), q ≤ n ∧ s4 = .int .i64 ((q : Int) - 1) ∧ s3 = .string ⟨(prW pre).toArray⟩ ∧ Hid (pre ++ tmx L q = tmx L L.length) ∧ Below w.heap.size w wx)
  case atStart => exact ⟨[], Nat.le_refl _, rfl, rfl, Lib.hid (by rw [List.nil_append]; exact HX.out), b0⟩
  case round =>
    clear b0
    obtain ⟨pre, hq, rfl, rfl, hpre, hbw⟩ := hrel
    obtain ⟨t, ht⟩ : ∃ t, prW pre = t := ⟨_, rfl⟩
    rw [ht]
    rcases gk with _ | q
    · have hp2 : pre = tmx L L.length := by have := hpre.out; rwa [show tmx L 0 = [] from rfl, List.append_nil] at this
      rw [hp2] at ht
      by_cases h0 : t = []
      · have HR := Lib.hid (show prL L = [48] by unfold prL; rw [ht, if_pos (by rw [h0]; rfl)])
        subst h0
        clear ht
        go_wp2
        go_ret
        exact ⟨by rw [HR.out]; rfl, hbw⟩
      · have HR := Lib.hid (show prL L = t by unfold prL; rw [ht, if_neg (by intro h; exact h0 (List.eq_nil_of_length_eq_zero h))])
        have h1 : (t == []) = false := by rw [beq_eq_false_iff_ne]; exact h0
        clear ht h0
        go_wp2
        go_ret
        exact ⟨by rw [HR.out]; rfl, hbw⟩
    · obtain ⟨a, rfl, c0, c1, hsz, hI⟩ := H.out q (by omega)
      have HC0 := Lib.hid (fun W (b : Below w.heap.size w W) => cell_keep c0 b)
      have HC1 := Lib.hid (fun W (b : Below w.heap.size w W) => cell_keep c1 b)
      have HZ0 := Lib.hid (fun W => refZero_any (g q) (s q) (co L q) W (Nat.le_trans hsz (by decide)) hI)
      have hq1 : ((q + 1 : Nat) : Int) - 1 = (q : Int) := by omega
      have hq0 : (0 : Int) ≤ (q : Int) := by omega
      have hql : (q : Int) < (L.length : Int) := by omega
      rw [hq1]
      have x0 := HC0.out _ hbw
      have x1 := HC1.out _ hbw
      by_cases hm : co L q = 0
      · have HP := Lib.hid (show pre ++ tmx L q = tmx L L.length by
          have := hpre.out
          rwa [tmx, dif_pos hm] at this)
        rw [show decide (co L q = 0) = true from decide_eq_true hm] at HZ0
        have HT := Lib.hid ht
        clear hm hpre hI c0 c1 ht
        go_wp2_with fail
        refine (HZ0.out _).mono ?_
        rintro e W1 ⟨rfl, b1⟩
        have hb2 := below_more hbw (Nat.le_refl _) b1
        clear hbw b1 x0 x1
        go_wp2_with fail
        go_roundg q
        case measure => omega
        case rel => exact ⟨pre, by omega, by go_num, by rw [HT.out], HP, hb2⟩
      · have HP := Lib.hid (show (pre ++ [⟨q, hm⟩]) ++ tmx L q = tmx L L.length by
          have := hpre.out
          rw [tmx, dif_neg hm] at this
          rw [List.append_assoc]
          exact this)
        rw [show decide (co L q = 0) = false from decide_eq_false hm] at HZ0
        have HCm := Lib.hid (fun W => rcmpV (g q) false (s q) ⟨#[]⟩ (co L q) 0 W (Nat.le_trans hsz (by decide)) (by decide) hI zv_zero)
        have hless := cmpZ_negB (co L q)
        obtain ⟨d, hd⟩ : ∃ d, cmpZ (co L q) 0 = d := ⟨_, rfl⟩
        simp only [hd] at HCm hless
        have HTm := Lib.hid (fun W => refTerm_any (g q) (s q) (co L q) q W hsz hI (HPB.out q) (by omega) (HPR.out q) (HPN.out q (by omega)))
        have hlen : pre.length ≤ 79 := by
          have h1 := congrArg List.length HP.out
          have h2 := tmx_len L n
          rw [HX.out, ← h1] at h2
          simp only [List.length_append, List.length_cons, List.length_nil] at h2
          omega
        have htl := HLn.out pre
        have hml := HTl.out ⟨q, hm⟩
        have hsn0 := prW_snoc pre ⟨q, hm⟩
        rw [ht] at htl hsn0
        dsimp only at hml hsn0
        obtain ⟨M, hM⟩ : ∃ M, tmW (co L q).natAbs q = M := ⟨_, rfl⟩
        simp only [hM] at HTm hml hsn0
        obtain ⟨pre2, hpre2⟩ : ∃ p, pre ++ [⟨q, hm⟩] = p := ⟨_, rfl⟩
        rw [hpre2] at HP
        have hM1 : M.length ≤ 8000000 := by omega
        have ht1 : t.length ≤ 8000000 := by omega
        have hlb : ∀ b, decide (co L q < 0) = b → decide (d < 0) = b := fun b h => hless.trans h
        have hsn : prW pre2 = t ++ sgn1 (decide (t.length = 0)) (decide (co L q < 0)) ++ M := by rw [← hpre2]; exact hsn0
        clear hsn0 hpre2 hM hpre hI c0 c1 ht htl hml hless hd hsz hm
        by_cases h0 : t = [] <;> by_cases hneg : co L q < 0
        · subst h0
          have d1 := hlb true (decide_eq_true hneg)
          have d2 : d < 0 := of_decide_eq_true d1
          rw [decide_eq_true hneg] at hsn
          have HS := Lib.hid (show prW pre2 = [45] ++ M from hsn)
          obtain ⟨V, hV⟩ : ∃ V, [45] ++ M = V := ⟨_, rfl⟩
          have s2 : ∀ w, (Op.stringOp .add ⟨#[45]⟩ ⟨M.toArray⟩).run Tryz.prog w = .ok (.string ⟨V.toArray⟩) w := fun w => by
            rw [← hV]; exact run_string_add_lists w [45] M (by simp) (by omega)
          rw [hV] at HS
          clear hsn hlb hneg hV
          go_wp2_with (first
            | (go_at_call 35; (with_reducible refine (HZ0.out _).mono ?_); rintro e W1 ⟨rfl, b1⟩; (have hbw := below_more hbw (Nat.le_refl _) b1); (have x0 := HC0.out _ hbw); (have x1 := HC1.out _ hbw))
            | (go_at_call 54; (with_reducible refine (HCm.out _).mono ?_); rintro e W2 ⟨rfl, b1⟩; (have hbw := below_more hbw (Nat.le_refl _) b1); (have x0 := HC0.out _ hbw); (have x1 := HC1.out _ hbw))
            | (go_at_call 55; (with_reducible refine (HTm.out _).mono ?_); rintro e W3 ⟨rfl, b1⟩; (have hbw := below_more hbw (Nat.le_refl _) b1)))
          go_roundg q
          case measure => omega
          case rel => exact ⟨pre2, by omega, by go_num, by rw [HS.out], HP, hbw⟩
        · subst h0
          have d1 := hlb false (decide_eq_false hneg)
          have d2 : ¬ d < 0 := of_decide_eq_false d1
          rw [decide_eq_false hneg] at hsn
          have HS := Lib.hid (show prW pre2 = M from hsn)
          have s2 : ∀ w, (Op.stringOp .add ⟨#[]⟩ ⟨M.toArray⟩).run Tryz.prog w = .ok (.string ⟨M.toArray⟩) w := fun w => by
            exact run_string_add_lists w [] M (by simp) (by omega)
          clear hsn hlb hneg
          go_wp2_with (first
            | (go_at_call 35; (with_reducible refine (HZ0.out _).mono ?_); rintro e W1 ⟨rfl, b1⟩; (have hbw := below_more hbw (Nat.le_refl _) b1); (have x0 := HC0.out _ hbw); (have x1 := HC1.out _ hbw))
            | (go_at_call 54; (with_reducible refine (HCm.out _).mono ?_); rintro e W2 ⟨rfl, b1⟩; (have hbw := below_more hbw (Nat.le_refl _) b1); (have x0 := HC0.out _ hbw); (have x1 := HC1.out _ hbw))
            | (go_at_call 55; (with_reducible refine (HTm.out _).mono ?_); rintro e W3 ⟨rfl, b1⟩; (have hbw := below_more hbw (Nat.le_refl _) b1)))
          go_roundg q
          case measure => omega
          case rel => exact ⟨pre2, by omega, by go_num, by rw [HS.out], HP, hbw⟩
        · have h1 : (t == []) = false := by rw [beq_eq_false_iff_ne]; exact h0
          have d1 := hlb true (decide_eq_true hneg)
          have d2 : d < 0 := of_decide_eq_true d1
          rw [decide_eq_true hneg, decide_eq_false (show ¬ t.length = 0 from fun h => h0 (List.eq_nil_of_length_eq_zero h))] at hsn
          have HS := Lib.hid (show prW pre2 = t ++ [32, 45, 32] ++ M from hsn)
          obtain ⟨U, hU⟩ : ∃ U, t ++ [32, 45, 32] = U := ⟨_, rfl⟩
          have hul : U.length ≤ 8000003 := by rw [← hU]; simp; omega
          obtain ⟨V, hV⟩ : ∃ V, U ++ M = V := ⟨_, rfl⟩
          have s1 : ∀ w, (Op.stringOp .add ⟨t.toArray⟩ ⟨#[32, 45, 32]⟩).run Tryz.prog w = .ok (.string ⟨U.toArray⟩) w := fun w => by
            rw [← hU]; exact run_string_add_lists w t [32, 45, 32] (by omega) (by simp)
          have s2 : ∀ w, (Op.stringOp .add ⟨U.toArray⟩ ⟨M.toArray⟩).run Tryz.prog w = .ok (.string ⟨V.toArray⟩) w := fun w => by
            rw [← hV]; exact run_string_add_lists w U M (by omega) (by omega)
          rw [hU, hV] at HS
          clear hsn hlb hneg hV hU h0
          go_wp2_with (first
            | (go_at_call 35; (with_reducible refine (HZ0.out _).mono ?_); rintro e W1 ⟨rfl, b1⟩; (have hbw := below_more hbw (Nat.le_refl _) b1); (have x0 := HC0.out _ hbw); (have x1 := HC1.out _ hbw))
            | (go_at_call 54; (with_reducible refine (HCm.out _).mono ?_); rintro e W2 ⟨rfl, b1⟩; (have hbw := below_more hbw (Nat.le_refl _) b1); (have x0 := HC0.out _ hbw); (have x1 := HC1.out _ hbw))
            | (go_at_call 55; (with_reducible refine (HTm.out _).mono ?_); rintro e W3 ⟨rfl, b1⟩; (have hbw := below_more hbw (Nat.le_refl _) b1)))
          go_roundg q
          case measure => omega
          case rel => exact ⟨pre2, by omega, by go_num, by rw [HS.out], HP, hbw⟩
        · have h1 : (t == []) = false := by rw [beq_eq_false_iff_ne]; exact h0
          have d1 := hlb false (decide_eq_false hneg)
          have d2 : ¬ d < 0 := of_decide_eq_false d1
          rw [decide_eq_false hneg, decide_eq_false (show ¬ t.length = 0 from fun h => h0 (List.eq_nil_of_length_eq_zero h))] at hsn
          have HS := Lib.hid (show prW pre2 = t ++ [32, 43, 32] ++ M from hsn)
          obtain ⟨U, hU⟩ : ∃ U, t ++ [32, 43, 32] = U := ⟨_, rfl⟩
          have hul : U.length ≤ 8000003 := by rw [← hU]; simp; omega
          obtain ⟨V, hV⟩ : ∃ V, U ++ M = V := ⟨_, rfl⟩
          have s1 : ∀ w, (Op.stringOp .add ⟨t.toArray⟩ ⟨#[32, 43, 32]⟩).run Tryz.prog w = .ok (.string ⟨U.toArray⟩) w := fun w => by
            rw [← hU]; exact run_string_add_lists w t [32, 43, 32] (by omega) (by simp)
          have s2 : ∀ w, (Op.stringOp .add ⟨U.toArray⟩ ⟨M.toArray⟩).run Tryz.prog w = .ok (.string ⟨V.toArray⟩) w := fun w => by
            rw [← hV]; exact run_string_add_lists w U M (by omega) (by omega)
          rw [hU, hV] at HS
          clear hsn hlb hneg hV hU h0
          go_wp2_with (first
            | (go_at_call 35; (with_reducible refine (HZ0.out _).mono ?_); rintro e W1 ⟨rfl, b1⟩; (have hbw := below_more hbw (Nat.le_refl _) b1); (have x0 := HC0.out _ hbw); (have x1 := HC1.out _ hbw))
            | (go_at_call 54; (with_reducible refine (HCm.out _).mono ?_); rintro e W2 ⟨rfl, b1⟩; (have hbw := below_more hbw (Nat.le_refl _) b1); (have x0 := HC0.out _ hbw); (have x1 := HC1.out _ hbw))
            | (go_at_call 55; (with_reducible refine (HTm.out _).mono ?_); rintro e W3 ⟨rfl, b1⟩; (have hbw := below_more hbw (Nat.le_refl _) b1)))
          go_roundg q
          case measure => omega
          case rel => exact ⟨pre2, by omega, by go_num, by rw [HS.out], HP, hbw⟩
end Go.Proofs.YtgcogpfmhmmgdaaGreatDoor
