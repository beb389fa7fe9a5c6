/- What IntegerDecimal returns: true. Condition: its own table. -/
import Derived.Test.YtdbfghppjhmelaaDoorCells
import Derived.Test.YtdbfghppjhmelaaDoorDeca
namespace Go.Proofs.YtdbfghppjhmelaaDoor
open Go.RowKit
set_option linter.unusedSimpArgs false

theorem greatD (sa : ByteArray) : greatB 1 (fun _ => sa) = decide (60 < sa.size) := by simp [greatB, List.range_succ]
theorem cells_oneD {W : World} {p : Nat} {g : Bool} {s : ByteArray} {u1 u2 : Value} (h1 : W.cell? ⟨p, 0, none⟩ = some u1) (h2 : W.cell? ⟨p, 1, none⟩ = some u2) : Cells [(p, g, s)] ((W.setCell ⟨p, 0, none⟩ (.bool g)).setCell ⟨p, 1, none⟩ (.string s)) :=
  Cells.cons (one_set h1 h2).1 (one_set h1 h2).2 (Cells.nil _)
theorem parse_eq {l : List UInt8} {z : Int} {w : World} (hl : l.length ≤ 65536) (h : pz l = some z) : Calls Tryd.prog 13 #[.string ⟨l.toArray⟩] w (GoodOut w z) :=
  (parse_any l w hl).mono fun _ _ h1 => by rw [h] at h1; exact h1
theorem parse_no {l : List UInt8} {w : World} (hl : l.length ≤ 65536) (h : pz l = none) : Calls Tryd.prog 13 #[.string ⟨l.toArray⟩] w (FailOut w 3) :=
  (parse_any l w hl).mono fun _ _ h1 => by rw [h] at h1; exact h1
theorem print_eq {v : Value} {z : Int} {k : Nat} {w : World} {T : List UInt8} (h : IsInt v z k) (htab : Lib.TabIs Tryd.prog w "internal/strconv.uint64pow10" .u64 Lib.pow10Tab) (e : prZ z = T) :
    Calls Tryd.prog 15 #[v] w fun e w' => e = .returned (.string ⟨T.toArray⟩) ∧ Below w.heap.size w w' := e ▸ print_any v z k w h htab
theorem pre_eq {T : List UInt8} {b : Bool} {w : World} (h : Lib.hasPrefix T [45] = b) :
    Calls Tryd.prog 29 #[.string ⟨T.toArray⟩, .string ⟨#[45]⟩] w fun e w' => e = .returned (.bool b) ∧ Below w.heap.size w w' := by
  have h1 := Tryd.strings_HasPrefix ⟨T.toArray⟩ ⟨#[45]⟩ w
  rw [show Lib.hasPrefix (⟨T.toArray⟩ : ByteArray).data.toList (⟨#[45]⟩ : ByteArray).data.toList = b from h] at h1
  exact h1.mono fun _ _ ⟨e1, e2⟩ => ⟨e1, by rw [e2]; exact Below.refl _ _⟩
theorem check_mg (z : Int) (w : World) : Calls Tryd.prog 21 #[.agg #[.bool (sg z), .string (mg z)]] w fun e w' => e = .returned (.int .i64 0) ∧ Below w.heap.size w w' :=
  (check_int (sg z) (mg z) w).mono fun _ _ ⟨e1, e2⟩ => ⟨by rw [e1, check_canon], e2⟩
theorem pz_bound {l : List UInt8} {z : Int} {k : Nat} (h : pz l = some z) (hl : l.length ≤ k) : z.natAbs < 4294967296 ^ k := by
  unfold pz at h
  split at h
  · cases h
  · rename_i hn
    have hd : isDec (cutD l) = true := by
      cases e : isDec (cutD l) with
      | true => rfl
      | false => exact absurd (Or.inl e) hn
    have hz := Option.some.inj h
    have h1 := dv_big (isDec_all hd)
    have h2 := cutD_len l
    have h3 : z.natAbs = dv (cutD l) := by rw [← hz]; split <;> simp
    rw [h3]
    exact Nat.lt_of_lt_of_le h1 (Nat.pow_le_pow_right (by omega) (by omega))
theorem app_zero (T : List UInt8) : (⟨T.toArray⟩ ++ ⟨#[48]⟩ : ByteArray) = ⟨(T ++ [48]).toArray⟩ := by
  apply ByteArray.ext
  simp
theorem prZ_zero_iff {z : Int} : prZ z = [48] ↔ z = 0 := by
  constructor
  · intro h
    have h1 := pz_print z
    rw [h] at h1
    have h2 : pz [48] = some 0 := rfl
    rw [h2] at h1
    exact (Option.some.inj h1).symm
  · rintro rfl; rfl

set_option maxRecDepth 100000 in
set_option maxHeartbeats 6400000 in
theorem decimal_any (na : Bool) (sa s : ByteArray) (w : World) (ha : sa.size ≤ 9223372036854775807) (hs : s.size ≤ 9223372036854775807) (htab : Lib.TabIs Tryd.prog w "internal/strconv.uint64pow10" .u64 Lib.pow10Tab) :
    Calls Tryd.prog 9 #[.agg #[.bool na, .string sa], .string s] w fun e w' => e = .returned (.bool true) ∧ Below w.heap.size w w' := by
  have Htab := Lib.hid htab
  clear htab
  obtain ⟨l, rfl⟩ : ∃ l : List UInt8, s = ⟨l.toArray⟩ := ⟨s.data.toList, rfl⟩
  have hll : (⟨l.toArray⟩ : ByteArray).size = l.length := by simp [ByteArray.size]
  rw [hll] at hs
  go_enter Tryd.func9, Tryd.ntmps9
  go_wp2_with fail
  refine (greats_any (w.heap.size + 1) 0 1 1 (fun _ => na) (fun _ => sa) _ ?_ (by omega) (fun _ _ => ha)).mono ?_
  · intro i hi
    obtain rfl : i = 0 := by omega
    simp [go_sem]
  rintro e W1 ⟨rfl, b1⟩
  rw [greatD]
  have S1 : Cells [(w.heap.size, na, sa)] W1 := Cells.keep b1 (Cells.cons (by simp [go_sem]) (by simp [go_sem]) (Cells.nil _))
  have B1 : Below w.heap.size w W1 := below_more (below2 w _ _) (Nat.le_refl _) b1
  clear b1
  by_cases hg : decide (60 < sa.size) = true
  · rw [hg]
    clear S1
    go_wp2_with fail
    refine (awake_any _ (tab_keep Htab.out B1)).mono ?_
    rintro e W2 ⟨rfl, b2⟩
    go_wp2
    go_ret
    exact ⟨rfl, below_more B1 (Nat.le_refl _) b2⟩
  rw [Bool.not_eq_true] at hg
  rw [hg]
  have h60 : sa.size ≤ 60 := by simpa using hg
  have Ia := Lib.hid (arg_int na sa h60)
  have Da := Lib.hid (bd_arg na sa h60)
  clear h60 hg ha
  generalize zv na sa = za at *
  by_cases h2 : 200 < l.length
  · clear S1
    go_wp2_with fail
    refine (awake_any _ (tab_keep Htab.out B1)).mono ?_
    rintro e W2 ⟨rfl, b2⟩
    go_wp2
    go_ret
    exact ⟨rfl, below_more B1 (Nat.le_refl _) b2⟩
  have h200 : l.length ≤ 200 := by omega
  clear h2 hs
  obtain ⟨T, HT⟩ : ∃ T, Hid (prZ za = T) := ⟨_, Lib.hid rfl⟩
  have P1 := Lib.hid (show pz T = some za by rw [← HT.out]; exact pz_print za)
  have P2 := Lib.hid (show Lib.hasPrefix T [45] = sg za by rw [← HT.out]; exact prefix_pr za)
  have P3 := Lib.hid (show pz (T ++ [48]) = if za = 0 then none else some (za * 10) by rw [← HT.out]; exact pz_ten za)
  have P4 := Lib.hid (show T = [48] ↔ za = 0 by rw [← HT.out]; exact prZ_zero_iff)
  have P5 : T.length ≤ 272 := by rw [← HT.out]; exact prZ_len Da.out
  have Ja := Lib.hid (isInt_mg Da.out (by omega))
  obtain ⟨t1, t2⟩ := S1 (w.heap.size, na, sa) (by simp)
  go_wp2_with fail
  refine (print_eq Ia.out (tab_keep Htab.out B1) HT.out).mono ?_
  rintro e W2 ⟨rfl, b2⟩
  have S2 := S1.keep b2
  have B2 := below_more B1 (Nat.le_refl _) b2
  clear S1 B1 b2 t1 t2
  go_wp2_with fail
  refine (parse_eq (by omega) P1.out).mono ?_
  rintro e W1 ⟨rfl, b1⟩
  have hbl := below1 W1 (.cells #[.bool (sg za), .string (mg za)] 23)
  have S' : Cells [(W1.heap.size, (sg za), (mg za)), (w.heap.size, na, sa)] (W1.alloc (.cells #[.bool (sg za), .string (mg za)] 23)) := Cells.cons (by simp [go_sem]) (by simp [go_sem]) ((S2.keep b1).keep hbl)
  have B' := below_more (below_more B2 (Nat.le_refl _) b1) (Nat.le_refl _) hbl
  clear S2 B2 b1 hbl
  go_upto_region 5 with fail
  generalize W1.alloc (.cells #[.bool (sg za), .string (mg za)] 23) = W2 at *
  generalize W1.heap.size = p6 at *
  have S : Cells [(p6, (sg za), (mg za)), (w.heap.size, na, sa)] W2 := S'
  have B := B'
  clear S' B'
  have hsplit : ∃ (c : Int) (b : Bool), Hid (cmpZ za 0 = c) ∧ Hid (Lib.hasPrefix T [45] = b) ∧ ((za = 0 ∧ c = 0 ∧ b = false) ∨ (za ≠ 0 ∧ c = -1 ∧ b = true) ∨ (za ≠ 0 ∧ c = 1 ∧ b = false)) := by
    refine ⟨_, _, Lib.hid rfl, Lib.hid rfl, ?_⟩
    rw [P2.out]
    unfold sg cmpZ
    rcases Int.lt_trichotomy za 0 with h | h | h
    · exact Or.inr (Or.inl ⟨by omega, by rw [if_pos h], by simpa using h⟩)
    · subst h; exact Or.inl ⟨rfl, by simp, by simp⟩
    · exact Or.inr (Or.inr ⟨by omega, by rw [if_neg (by omega), if_pos h], by simp; omega⟩)
  obtain ⟨c, b, Ec, Eb, hsplit⟩ := hsplit
  have Es := Lib.hid (cmpZ_self za)
  have hq : (za = 0 ∨ za ≠ 0) := by omega
  obtain ⟨t1, t2, t3, t4⟩ := flat2 S
  have S0 : Cells [(p6, (sg za), (mg za)), (w.heap.size, na, sa)] W2.drew := S
  have B0 := B.drew
  rcases hsplit with ⟨hz, rfl, rfl⟩ | ⟨hz, rfl, rfl⟩ | ⟨hz, rfl, rfl⟩
  all_goals
    have Hz := Lib.hid hz
    clear hz hq
    go_region_held3 (fun W => W.cell? ⟨p6, 0, none⟩ = some (.bool (sg za)) ∧ W.cell? ⟨p6, 1, none⟩ = some (.string (mg za)) ∧ W.cell? ⟨w.heap.size, 0, none⟩ = some (.bool na) ∧ W.cell? ⟨w.heap.size, 1, none⟩ = some (.string sa)) ((first | exact flat2 (Cells.keep (by assumption) (by assumption)) | exact flat2 (by assumption) | go_keep))
      (first
        | (go_at_call 22; first
            | ((with_reducible refine (icmp_eq Ja.out Ia.out Es.out).mono ?_); rintro e X ⟨rfl, bX⟩; have S1 := Cells.keep bX (by assumption); have B1 := below_more B0 (Nat.le_refl _) bX)
            | ((with_reducible refine (icmp_eq Ia.out zero_int Ec.out).mono ?_); rintro e X ⟨rfl, bX⟩; have S4 := Cells.keep bX (by assumption); have B4 := below_more B3 (Nat.le_refl _) bX))
        | (go_at_call 21; (with_reducible refine (check_mg za _).mono ?_); rintro e X ⟨rfl, bX⟩; have S2 := Cells.keep bX (by assumption); have B2 := below_more B1 (Nat.le_refl _) bX)
        | (go_at_call 29; (with_reducible refine (pre_eq Eb.out).mono ?_); rintro e X ⟨rfl, bX⟩; have S3 := Cells.keep bX (by assumption); have B3 := below_more B2 (Nat.le_refl _) bX))
  all_goals clear S B S0 B0
  all_goals have S := S4
  all_goals have B := B4
  all_goals clear S1 S2 S3 S4 B1 B2 B3 B4
  all_goals
    go_wp2_with fail
  all_goals rw [app_zero]
  · have hT := P4.out.2 Hz.out
    have hT2 : (T == [48]) = true := by rw [hT]; rfl
    clear hT
    refine (parse_no (by simp; omega) (by rw [P3.out, if_pos Hz.out])).mono ?_
    rintro e W1 ⟨rfl, b1⟩
    have hbl := below1 W1 (.cells #[.bool false, .string ⟨#[]⟩] 23)
    have S' : Cells [(W1.heap.size, false, ⟨#[]⟩), (p6, (sg za), (mg za)), (w.heap.size, na, sa)] (W1.alloc (.cells #[.bool false, .string ⟨#[]⟩] 23)) := Cells.cons (by simp [go_sem]) (by simp [go_sem]) ((S.keep b1).keep hbl)
    have B' := below_more (below_more B (Nat.le_refl _) b1) (Nat.le_refl _) hbl
    clear S B b1 hbl t1 t2 t3 t4
    go_upto_region 8 with fail
    generalize W1.alloc (.cells #[.bool false, .string ⟨#[]⟩] 23) = W2 at *
    generalize W1.heap.size = p8 at *
    have S : Cells [(p8, false, ⟨#[]⟩), (p6, (sg za), (mg za)), (w.heap.size, na, sa)] W2 := S'
    have B := B'
    clear S' B'
    obtain ⟨t1, t2, t3, t4, t5, t6⟩ := flat3 S
    go_big_region
    have BT := B.drew
    clear S B t1 t2 t3 t4 t5 t6
    rcases hp : pz l with _ | y
    · go_wp2_with fail
      refine (parse_no (by omega) hp).mono ?_
      rintro e W1 ⟨rfl, b1⟩
      have hbl := below1 W1 (.cells #[.bool false, .string ⟨#[]⟩] 23)
      have BU := below_more (below_more BT (Nat.le_refl _) b1) (Nat.le_refl _) hbl
      go_wp2_with fail
      refine (awake_any _ (tab_keep Htab.out BU)).mono ?_
      rintro e W4 ⟨rfl, b4⟩
      go_wp2
      go_ret
      exact ⟨rfl, below_more BU (Nat.le_refl _) b4⟩
    · have Jy := Lib.hid (isInt_mg (pz_bound hp h200) (by omega))
      have Hy := Lib.hid (print_pz hp)
      go_wp2_with fail
      refine (parse_eq (by omega) hp).mono ?_
      rintro e W1 ⟨rfl, b1⟩
      have hbl := below1 W1 (.cells #[.bool (sg y), .string (mg y)] 23)
      have BU := below_more (below_more BT (Nat.le_refl _) b1) (Nat.le_refl _) hbl
      go_wp2_with fail
      refine (print_eq Jy.out (tab_keep Htab.out BU) Hy.out).mono ?_
      rintro e W3 ⟨rfl, b3⟩
      have BV := below_more BU (Nat.le_refl _) b3
      go_wp2_with fail
      refine (awake_any _ (tab_keep Htab.out BV)).mono ?_
      rintro e W4 ⟨rfl, b4⟩
      go_wp2
      go_ret
      exact ⟨rfl, below_more BV (Nat.le_refl _) b4⟩
  all_goals
    have hT2 : (T == [48]) = false := by rw [beq_eq_false_iff_ne]; exact fun h => Hz.out (P4.out.1 h)
    obtain ⟨zt, Et⟩ : ∃ z, Hid (za * 10 = z) := ⟨_, Lib.hid rfl⟩
    have J10 := Lib.hid (isInt_mg (z := 10) (k := 1) (by decide) (by omega))
    refine (parse_eq (z := zt) (by simp; omega) (by rw [P3.out, if_neg Hz.out, Et.out])).mono ?_
    rintro e W1 ⟨rfl, b1⟩
    have hbl := below1 W1 (.cells #[.bool (sg zt), .string (mg zt)] 23)
    have S' : Cells [(W1.heap.size, (sg zt), (mg zt)), (p6, (sg za), (mg za)), (w.heap.size, na, sa)] (W1.alloc (.cells #[.bool (sg zt), .string (mg zt)] 23)) := Cells.cons (by simp [go_sem]) (by simp [go_sem]) ((S.keep b1).keep hbl)
    have B' := below_more (below_more B (Nat.le_refl _) b1) (Nat.le_refl _) hbl
    clear S B b1 hbl t1 t2 t3 t4
    go_upto_region 8 with fail
    generalize W1.alloc (.cells #[.bool (sg zt), .string (mg zt)] 23) = W2 at *
    generalize W1.heap.size = p8 at *
    have S : Cells [(p8, (sg zt), (mg zt)), (p6, (sg za), (mg za)), (w.heap.size, na, sa)] W2 := S'
    have B := B'
    clear S' B'
    obtain ⟨t1, t2, t3, t4, t5, t6⟩ := flat3 S
    have S0 : Cells [(p8, (sg zt), (mg zt)), (p6, (sg za), (mg za)), (w.heap.size, na, sa)] W2.drew := S
    have B0 := B.drew
    go_region_held3 (fun W => W.cell? ⟨p8, 0, none⟩ = some (.bool (sg zt)) ∧ W.cell? ⟨p8, 1, none⟩ = some (.string (mg zt)) ∧ W.cell? ⟨p6, 0, none⟩ = some (.bool (sg za)) ∧ W.cell? ⟨p6, 1, none⟩ = some (.string (mg za)) ∧ W.cell? ⟨w.heap.size, 0, none⟩ = some (.bool na) ∧ W.cell? ⟨w.heap.size, 1, none⟩ = some (.string sa)) ((first | exact flat3 (Cells.keep (by assumption) (by assumption)) | exact flat3 (by assumption) | go_keep))
      (first
        | (go_at_call 23; (with_reducible refine (iof_any 10 _ (by omega) (by omega)).mono ?_); rintro e X ⟨rfl, bX⟩; have S1 := Cells.keep bX (by assumption); have B1 := below_more B0 (Nat.le_refl _) bX)
        | (go_at_call 18; (with_reducible refine (imul_eq Ja.out J10.out Et.out).mono ?_); rintro e X ⟨rfl, bX⟩; have S2 := Cells.keep bX (by assumption); have B2 := below_more B1 (Nat.le_refl _) bX))
  all_goals have BT := B2
  all_goals clear S B S0 B0 S1 B1 S2 B2 t1 t2 t3 t4 t5 t6
  all_goals
    rcases hp : pz l with _ | y
    · go_wp2_with fail
      refine (parse_no (by omega) hp).mono ?_
      rintro e W1 ⟨rfl, b1⟩
      have hbl := below1 W1 (.cells #[.bool false, .string ⟨#[]⟩] 23)
      have BU := below_more (below_more BT (Nat.le_refl _) b1) (Nat.le_refl _) hbl
      go_wp2_with fail
      refine (awake_any _ (tab_keep Htab.out BU)).mono ?_
      rintro e W4 ⟨rfl, b4⟩
      go_wp2
      go_ret
      exact ⟨rfl, below_more BU (Nat.le_refl _) b4⟩
    · have Jy := Lib.hid (isInt_mg (pz_bound hp h200) (by omega))
      have Hy := Lib.hid (print_pz hp)
      go_wp2_with fail
      refine (parse_eq (by omega) hp).mono ?_
      rintro e W1 ⟨rfl, b1⟩
      have hbl := below1 W1 (.cells #[.bool (sg y), .string (mg y)] 23)
      have BU := below_more (below_more BT (Nat.le_refl _) b1) (Nat.le_refl _) hbl
      go_wp2_with fail
      refine (print_eq Jy.out (tab_keep Htab.out BU) Hy.out).mono ?_
      rintro e W3 ⟨rfl, b3⟩
      have BV := below_more BU (Nat.le_refl _) b3
      go_wp2_with fail
      refine (awake_any _ (tab_keep Htab.out BV)).mono ?_
      rintro e W4 ⟨rfl, b4⟩
      go_wp2
      go_ret
      exact ⟨rfl, below_more BV (Nat.le_refl _) b4⟩
end Go.Proofs.YtdbfghppjhmelaaDoor
