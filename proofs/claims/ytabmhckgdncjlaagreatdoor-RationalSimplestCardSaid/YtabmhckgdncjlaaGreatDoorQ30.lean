/- What rational.Add, Sub, Mul, Quo, Ratio, Neg and Floor return. Condition: the integers have at most 10^6 digits to the base 2^32. How rational numbers are compared as values of the program. No condition. What integer.Power returns: the power, or the error's number and zero. -/
import Derived.Test.YtabmhckgdncjlaaGreatDoorQ25
import Derived.Test.YtabmhckgdncjlaaGreatDoorQ26
import Derived.Test.YtabmhckgdncjlaaGreatDoorQ27
import Derived.Test.YtabmhckgdncjlaaGreatDoorQ28
import Derived.Test.YtabmhckgdncjlaaGreatDoorQ29
import Derived.Test.YtabmhckgdncjlaaGreatDoorQ22
import Derived.Test.YtabmhckgdncjlaaGreatDoorQ14
import Derived.Test.YtabmhckgdncjlaaGreatDoorQ11
import Derived.Test.YtabmhckgdncjlaaGreatDoorQ09

namespace Go.Proofs.YtabmhckgdncjlaaGreatDoor
open Go.RowKit
set_option linter.unusedSimpArgs false

set_option maxRecDepth 100000 in
theorem radd_any (v1 v2 : Value) (p q r : Rat) (k : Nat) (w : World) (h1 : IsRat v1 p k) (h2 : IsRat v2 q k) (hk : k ≤ 1000000) (hr : p + q = r) :
    Calls Tryz.prog 12 #[v1, v2] w (RatOut w r) := by
  have Hr := Lib.hid hr
  have H1 := Lib.hid h1
  have H2 := Lib.hid h2
  clear hr
  obtain ⟨na, sa, nb, sb, -, -, rfl, -⟩ := h1
  obtain ⟨nc, sc, nd, sd, -, -, rfl, -⟩ := h2
  have P0 := ResRat.new ((w.alloc (.cells #[.bool na, .string sa, .bool nb, .string sb] 25)).alloc (.cells #[.bool nc, .string sc, .bool nd, .string sd] 25))
  rw [World.size_alloc, World.size_alloc] at P0
  have B0 := below3 w (.cells #[.bool na, .string sa, .bool nb, .string sb] 25) (.cells #[.bool nc, .string sc, .bool nd, .string sd] 25) (.cells #[.bool false, .string ⟨#[]⟩, .bool false, .string ⟨#[]⟩] 25)
  go_enter Tryz.func12, Tryz.ntmps12
  go_wp2_with fail
  refine (app0_any _ _ p q k _ H1.out H2.out hk).mono ?_
  rw [Hr.out]
  rintro e W1 ⟨rfl, b1⟩
  have hbl := below1 W1 (.cells #[.bool (sg (r).num), .string (mg (r).num), .bool (sg ((r).den : Int)), .string (mg ((r).den : Int))] 25)
  have P1 := (P0.keep b1).keep hbl
  have S1 : RIn (W1.alloc (.cells #[.bool (sg (r).num), .string (mg (r).num), .bool (sg ((r).den : Int)), .string (mg ((r).den : Int))] 25)) W1.heap.size (sg r.num) (mg r.num) (sg (r.den : Int)) (mg (r.den : Int)) := RIn.new rfl
  have B1 := below_more (below_more B0 (Nat.le_refl _) b1) (Nat.le_refl _) hbl
  clear P0 B0 b1 hbl
  unfold ratV
  go_upto_region 2 with fail
  generalize W1.alloc (.cells #[.bool (sg (r).num), .string (mg (r).num), .bool (sg ((r).den : Int)), .string (mg ((r).den : Int))] 25) = W2 at *
  generalize W1.heap.size = p5 at *
  obtain ⟨⟨r1, r2, r3, r4⟩, r5, r6, r7, r8⟩ := P1
  obtain ⟨t1, t2, t3, t4⟩ := S1
  go_wp2
  exact bodyPost_ret (v := ratV r) (by simp [results, Tryz.results12, go_sem, r1, r2, r3, r4, ratV]) rfl ⟨rfl, below4s B1 _ (by omega) _ _ _ _⟩
set_option maxRecDepth 100000 in
theorem rsub_any (v1 v2 : Value) (p q r : Rat) (k : Nat) (w : World) (h1 : IsRat v1 p k) (h2 : IsRat v2 q k) (hk : k ≤ 1000000) (hr : p - q = r) :
    Calls Tryz.prog 15 #[v1, v2] w (RatOut w r) := by
  have Hr := Lib.hid hr
  have H1 := Lib.hid h1
  have H2 := Lib.hid h2
  clear hr
  obtain ⟨na, sa, nb, sb, -, -, rfl, -⟩ := h1
  obtain ⟨nc, sc, nd, sd, -, -, rfl, -⟩ := h2
  have P0 := ResRat.new ((w.alloc (.cells #[.bool na, .string sa, .bool nb, .string sb] 25)).alloc (.cells #[.bool nc, .string sc, .bool nd, .string sd] 25))
  rw [World.size_alloc, World.size_alloc] at P0
  have B0 := below3 w (.cells #[.bool na, .string sa, .bool nb, .string sb] 25) (.cells #[.bool nc, .string sc, .bool nd, .string sd] 25) (.cells #[.bool false, .string ⟨#[]⟩, .bool false, .string ⟨#[]⟩] 25)
  go_enter Tryz.func15, Tryz.ntmps15
  go_wp2_with fail
  refine (app1_any _ _ p q k _ H1.out H2.out hk).mono ?_
  rw [Hr.out]
  rintro e W1 ⟨rfl, b1⟩
  have hbl := below1 W1 (.cells #[.bool (sg (r).num), .string (mg (r).num), .bool (sg ((r).den : Int)), .string (mg ((r).den : Int))] 25)
  have P1 := (P0.keep b1).keep hbl
  have S1 : RIn (W1.alloc (.cells #[.bool (sg (r).num), .string (mg (r).num), .bool (sg ((r).den : Int)), .string (mg ((r).den : Int))] 25)) W1.heap.size (sg r.num) (mg r.num) (sg (r.den : Int)) (mg (r.den : Int)) := RIn.new rfl
  have B1 := below_more (below_more B0 (Nat.le_refl _) b1) (Nat.le_refl _) hbl
  clear P0 B0 b1 hbl
  unfold ratV
  go_upto_region 2 with fail
  generalize W1.alloc (.cells #[.bool (sg (r).num), .string (mg (r).num), .bool (sg ((r).den : Int)), .string (mg ((r).den : Int))] 25) = W2 at *
  generalize W1.heap.size = p5 at *
  obtain ⟨⟨r1, r2, r3, r4⟩, r5, r6, r7, r8⟩ := P1
  obtain ⟨t1, t2, t3, t4⟩ := S1
  go_wp2
  exact bodyPost_ret (v := ratV r) (by simp [results, Tryz.results15, go_sem, r1, r2, r3, r4, ratV]) rfl ⟨rfl, below4s B1 _ (by omega) _ _ _ _⟩
set_option maxRecDepth 100000 in
theorem rmul_any (v1 v2 : Value) (p q r : Rat) (k : Nat) (w : World) (h1 : IsRat v1 p k) (h2 : IsRat v2 q k) (hk : k ≤ 1000000) (hr : p * q = r) :
    Calls Tryz.prog 13 #[v1, v2] w (RatOut w r) := by
  have Hr := Lib.hid hr
  have H1 := Lib.hid h1
  have H2 := Lib.hid h2
  clear hr
  obtain ⟨na, sa, nb, sb, -, -, rfl, -⟩ := h1
  obtain ⟨nc, sc, nd, sd, -, -, rfl, -⟩ := h2
  have P0 := ResRat.new ((w.alloc (.cells #[.bool na, .string sa, .bool nb, .string sb] 25)).alloc (.cells #[.bool nc, .string sc, .bool nd, .string sd] 25))
  rw [World.size_alloc, World.size_alloc] at P0
  have B0 := below3 w (.cells #[.bool na, .string sa, .bool nb, .string sb] 25) (.cells #[.bool nc, .string sc, .bool nd, .string sd] 25) (.cells #[.bool false, .string ⟨#[]⟩, .bool false, .string ⟨#[]⟩] 25)
  go_enter Tryz.func13, Tryz.ntmps13
  go_wp2_with fail
  refine (app2_any _ _ p q k _ H1.out H2.out hk).mono ?_
  rw [Hr.out]
  rintro e W1 ⟨rfl, b1⟩
  have hbl := below1 W1 (.cells #[.bool (sg (r).num), .string (mg (r).num), .bool (sg ((r).den : Int)), .string (mg ((r).den : Int))] 25)
  have P1 := (P0.keep b1).keep hbl
  have S1 : RIn (W1.alloc (.cells #[.bool (sg (r).num), .string (mg (r).num), .bool (sg ((r).den : Int)), .string (mg ((r).den : Int))] 25)) W1.heap.size (sg r.num) (mg r.num) (sg (r.den : Int)) (mg (r.den : Int)) := RIn.new rfl
  have B1 := below_more (below_more B0 (Nat.le_refl _) b1) (Nat.le_refl _) hbl
  clear P0 B0 b1 hbl
  unfold ratV
  go_upto_region 2 with fail
  generalize W1.alloc (.cells #[.bool (sg (r).num), .string (mg (r).num), .bool (sg ((r).den : Int)), .string (mg ((r).den : Int))] 25) = W2 at *
  generalize W1.heap.size = p5 at *
  obtain ⟨⟨r1, r2, r3, r4⟩, r5, r6, r7, r8⟩ := P1
  obtain ⟨t1, t2, t3, t4⟩ := S1
  go_wp2
  exact bodyPost_ret (v := ratV r) (by simp [results, Tryz.results13, go_sem, r1, r2, r3, r4, ratV]) rfl ⟨rfl, below4s B1 _ (by omega) _ _ _ _⟩
set_option maxRecDepth 100000 in
theorem rquo_some (v1 v2 : Value) (p q r : Rat) (k : Nat) (w : World) (h1 : IsRat v1 p k) (h2 : IsRat v2 q k) (hk : k ≤ 1000000) (h0 : q ≠ 0) (hr : p / q = r) :
    Calls Tryz.prog 17 #[v1, v2] w (RatGood w r) := by
  have H0 := Lib.hid h0
  have H1 := Lib.hid h1
  have H2 := Lib.hid h2
  clear h0
  obtain ⟨na, sa, nb, sb, -, -, rfl, -⟩ := h1
  obtain ⟨nc, sc, nd, sd, -, -, rfl, -⟩ := h2
  have P0 := ResRat.new ((w.alloc (.cells #[.bool na, .string sa, .bool nb, .string sb] 25)).alloc (.cells #[.bool nc, .string sc, .bool nd, .string sd] 25))
  rw [World.size_alloc, World.size_alloc] at P0
  have B0 := below3 w (.cells #[.bool na, .string sa, .bool nb, .string sb] 25) (.cells #[.bool nc, .string sc, .bool nd, .string sd] 25) (.cells #[.bool false, .string ⟨#[]⟩, .bool false, .string ⟨#[]⟩] 25)
  go_enter Tryz.func17, Tryz.ntmps17
  go_wp2_with fail
  refine (app3_any _ _ p q k _ H1.out H2.out hk H0.out).mono ?_
  rw [hr]
  rintro e W1 ⟨rfl, b1⟩
  have P1 := P0.keep b1
  have B1 := below_more B0 (Nat.le_refl _) b1
  clear P0 B0 b1
  try unfold ratV
  obtain ⟨⟨r1, r2, r3, r4⟩, r5, r6, r7, r8⟩ := P1
  go_wp2
  exact bodyPost_ret (v := .tuple #[ratV r, .int .i64 0]) (by simp [results, Tryz.results17, go_sem, r1, r2, r3, r4, ratV]) rfl ⟨rfl, below4s B1 _ (by omega) _ _ _ _⟩
set_option maxRecDepth 100000 in
theorem rquo_none (v1 v2 : Value) (p q : Rat) (k : Nat) (w : World) (h1 : IsRat v1 p k) (h2 : IsRat v2 q k) (hk : k ≤ 1000000) (h0 : q = 0) :
    Calls Tryz.prog 17 #[v1, v2] w (RatFail w 9) := by
  have H0 := Lib.hid h0
  have H1 := Lib.hid h1
  have H2 := Lib.hid h2
  clear h0
  obtain ⟨na, sa, nb, sb, -, -, rfl, -⟩ := h1
  obtain ⟨nc, sc, nd, sd, -, -, rfl, -⟩ := h2
  have P0 := ResRat.new ((w.alloc (.cells #[.bool na, .string sa, .bool nb, .string sb] 25)).alloc (.cells #[.bool nc, .string sc, .bool nd, .string sd] 25))
  rw [World.size_alloc, World.size_alloc] at P0
  have B0 := below3 w (.cells #[.bool na, .string sa, .bool nb, .string sb] 25) (.cells #[.bool nc, .string sc, .bool nd, .string sd] 25) (.cells #[.bool false, .string ⟨#[]⟩, .bool false, .string ⟨#[]⟩] 25)
  go_enter Tryz.func17, Tryz.ntmps17
  go_wp2_with fail
  refine (appZ_any _ _ p q k _ H1.out H2.out hk H0.out).mono ?_
  rintro e W1 ⟨rfl, b1⟩
  have P1 := P0.keep b1
  have B1 := below_more B0 (Nat.le_refl _) b1
  clear P0 B0 b1
  try unfold ratV
  obtain ⟨⟨r1, r2, r3, r4⟩, r5, r6, r7, r8⟩ := P1
  go_wp2
  exact bodyPost_ret (v := .tuple #[.agg #[.bool false, .string ⟨#[]⟩, .bool false, .string ⟨#[]⟩], .int .i64 9]) (by simp [results, Tryz.results17, go_sem, r1, r2, r3, r4, ratV]) rfl ⟨rfl, below4s B1 _ (by omega) _ _ _ _⟩

set_option maxRecDepth 100000 in
theorem ratio_any (n d : Int) (r : Rat) (w : World) (hn : -9223372036854775808 ≤ n) (hn' : n ≤ 9223372036854775807) (hd : -9223372036854775808 ≤ d) (hd' : d ≤ 9223372036854775807) (h0 : d ≠ 0) (hr : Rat.divInt n d = r) :
    Calls Tryz.prog 35 #[.int .i64 n, .int .i64 d] w (RatGood w r) := by
  have Hr := Lib.hid hr
  have H0 := Lib.hid h0
  have In := Lib.hid (show IsInt (.agg #[.bool (sg n), .string (mg n)]) n 2 from isInt_mg (by omega) (by omega))
  have Id := Lib.hid (show IsInt (.agg #[.bool (sg d), .string (mg d)]) d 2 from isInt_mg (by omega) (by omega))
  clear hr h0
  have P0 := ResRat.new w
  have B0 := below1 w (.cells #[.bool false, .string ⟨#[]⟩, .bool false, .string ⟨#[]⟩] 25)
  go_enter Tryz.func35, Tryz.ntmps35
  go_wp2_with fail
  refine (iof_any n _ hn hn').mono ?_
  rintro e W1 ⟨rfl, b1⟩
  go_wp2_with fail
  refine (iof_any d _ hd hd').mono ?_
  rintro e W2 ⟨rfl, b2⟩
  go_wp2_with fail
  refine (new_some _ _ n d 2 _ In.out Id.out H0.out).mono ?_
  rw [Hr.out]
  rintro e W3 ⟨rfl, b3⟩
  have P1 := ((P0.keep b1).keep b2).keep b3
  have B1 := below_more (below_more (below_more B0 (Nat.le_refl _) b1) (Nat.le_refl _) b2) (Nat.le_refl _) b3
  unfold ratV
  obtain ⟨⟨r1, r2, r3, r4⟩, r5, r6, r7, r8⟩ := P1
  go_wp2
  exact bodyPost_ret (v := .tuple #[ratV r, .int .i64 0]) (by simp [results, Tryz.results35, go_sem, r1, r2, r3, r4, ratV]) rfl ⟨rfl, below4s B1 _ (Nat.le_refl _) _ _ _ _⟩

set_option maxRecDepth 100000 in
set_option maxHeartbeats 3200000 in
theorem rneg_any (v1 : Value) (q r : Rat) (k : Nat) (w : World) (h1 : IsRat v1 q k) (hk : k ≤ 4000000) (hr : -q = r) : Calls Tryz.prog 16 #[v1] w (RatOut w r) := by
  have Hr := Lib.hid (show -q.num = r.num ∧ q.den = r.den by rw [← hr]; exact ⟨rfl, rfl⟩)
  have H1 := Lib.hid h1
  have Hb := Lib.hid (show RatBd q (k + 1) by
    obtain ⟨_, _, _, _, n, d, _, h2, h3, rfl⟩ := h1
    exact ratBd_divInt h2.bd h3.bd)
  obtain ⟨na, sa, nb, sb, -, -, rfl, -⟩ := h1
  have P0 := ResRat.new (w.alloc (.cells #[.bool na, .string sa, .bool nb, .string sb] 25))
  rw [World.size_alloc] at P0
  have B0 := below2 w (.cells #[.bool na, .string sa, .bool nb, .string sb] 25) (.cells #[.bool false, .string ⟨#[]⟩, .bool false, .string ⟨#[]⟩] 25)
  go_enter Tryz.func16, Tryz.ntmps16
  go_wp2_with fail
  refine (rcanon_any _ q k _ H1.out).mono ?_
  rintro e W1 ⟨rfl, b1⟩
  have hbl := below1 W1 (.cells #[.bool (sg q.num), .string (mg q.num), .bool (sg (q.den : Int)), .string (mg (q.den : Int))] 25)
  have P1 := (P0.keep b1).keep hbl
  have L1 := (P0.keep b1).1.lt
  have S1 : RIn (W1.alloc (.cells #[.bool (sg q.num), .string (mg q.num), .bool (sg (q.den : Int)), .string (mg (q.den : Int))] 25)) W1.heap.size (sg q.num) (mg q.num) (sg (q.den : Int)) (mg (q.den : Int)) := RIn.new rfl
  have B1 := below_more (below_more B0 (Nat.le_refl _) b1) (Nat.le_refl _) hbl
  have Iq := Lib.hid (isInt_mg Hb.out.1 (by omega))
  clear P0 B0 b1 hbl
  unfold ratV
  go_upto_region 2 with fail
  generalize W1.alloc (.cells #[.bool (sg q.num), .string (mg q.num), .bool (sg (q.den : Int)), .string (mg (q.den : Int))] 25) = W2 at *
  generalize W1.heap.size = p3 at *
  have S2 : RIn W2.drew p3 (sg q.num) (mg q.num) (sg (q.den : Int)) (mg (q.den : Int)) := S1
  have L3 := S1.lt
  have hne : p3 ≠ w.heap.size + 1 := by omega
  go_region_held3 (fun W => W.cell? ⟨p3, 0, none⟩ = some (.bool (sg q.num)) ∧ W.cell? ⟨p3, 1, none⟩ = some (.string (mg q.num)) ∧ W.cell? ⟨p3, 2, none⟩ = some (.bool (sg (q.den : Int))) ∧ W.cell? ⟨p3, 3, none⟩ = some (.string (mg (q.den : Int)))) (first | exact S1 | exact S2 | exact RIn.keep S2 (by assumption) | exact ((((RIn.keep S2 (by assumption)).set _ hne _).set _ hne _).set _ hne _).set _ hne _ | go_keep)
    (first
      | (go_at_call 37; refine (ineg_eq Iq.out Hr.out.1).mono ?_; rintro e W3 ⟨rfl, b3⟩; obtain ⟨⟨r1, r2, r3, r4⟩, r5, r6, r7, r8⟩ := P1.drew.keep b3))
  all_goals
    go_wp2
    exact bodyPost_ret (v := ratV r) (by simp [results, Tryz.results16, go_sem, r1, r2, r3, r4, ratV, Hr.out.2]) rfl ⟨rfl, below4s (below_more B1.drew (Nat.le_refl _) b3) _ (by omega) _ _ _ _⟩
end Go.Proofs.YtabmhckgdncjlaaGreatDoor

namespace Go.Proofs.YtabmhckgdncjlaaGreatDoor
open Go.RowKit

theorem Tryz.fieldsRat : (Tryz.prog.fieldsOf 25).toList = [{ name := "Num", type := 23, offset := 0, embedded := false, tag := "", pkgPath := "", byteOffset := 0 }, { name := "Den", type := 23, offset := 2, embedded := false, tag := "", pkgPath := "", byteOffset := 24 }] := by kernel_rfl
theorem partR0 (a b : Bool) (s t : ByteArray) (w : World) : (part 23 #[Value.bool a, Value.string s, Value.bool b, Value.string t] 0).run Tryz.prog w = .ok (.agg #[.bool a, .string s]) w := by kernel_rfl
theorem partR1 (a b : Bool) (s t : ByteArray) (w : World) : (part 23 #[Value.bool a, Value.string s, Value.bool b, Value.string t] 2).run Tryz.prog w = .ok (.agg #[.bool b, .string t]) w := by kernel_rfl
theorem eq0' (a b : Bool) (w : World) : (Op.equalIn 9998 4 (.bool a) (.bool b)).run Tryz.prog w = .ok (a == b) w := run_equalIn_bool' w 9997 4 a b Tryz.underlying4
theorem eq1' (a b : ByteArray) (w : World) : (Op.equalIn 9998 9 (.string a) (.string b)).run Tryz.prog w = .ok (a.toList == b.toList) w := run_equalIn_string w 9997 9 a b Tryz.underlying9
set_option maxRecDepth 100000 in
theorem eqInt9 (a b : Bool) (s t : ByteArray) (w : World) : (Op.equalIn 9999 23 (.agg #[.bool a, .string s]) (.agg #[.bool b, .string t])).run Tryz.prog w = .ok (a == b && s.toList == t.toList) w := by
  rw [run_equalIn_agg w 9998 23 _ _ (by kernel_rfl) (by kernel_rfl), Tryz.fieldsInt]
  simp only [Op.eqFields]
  rw [if_pos (by decide)]
  rw [if_pos (by decide)]
  simp only [Sem.run_bind, part0, eq0', Result.andThen]
  cases a == b
  · rfl
  · simp only [Bool.not_true, Bool.true_and, if_neg (show ¬ (false = true) by decide), Sem.run_bind, part1, eq1', Result.andThen]
    cases s.toList == t.toList <;> rfl
/-- Whether two rational numbers are the same values. -/
def sameR (a : Bool) (s : ByteArray) (b : Bool) (t : ByteArray) (a' : Bool) (s' : ByteArray) (b' : Bool) (t' : ByteArray) : Bool := (a == a' && s.toList == s'.toList) && (b == b' && t.toList == t'.toList)
set_option maxRecDepth 100000 in
theorem neqRat (a b a' b' : Bool) (s t s' t' : ByteArray) (w : World) : (binOp .neq 25 (.agg #[.bool a, .string s, .bool b, .string t]) (.agg #[.bool a', .string s', .bool b', .string t'])).run Tryz.prog w = .ok (.bool (!(sameR a s b t a' s' b' t'))) w := by
  rw [run_neq_struct, run_equalIn_agg w 9999 25 _ _ (by kernel_rfl) (by kernel_rfl), Tryz.fieldsRat]
  simp only [Op.eqFields]
  rw [if_pos (by decide)]
  rw [if_pos (by decide)]
  simp only [Sem.run_bind, partR0, eqInt9, Result.andThen]
  unfold sameR
  cases (a == a' && s.toList == s'.toList)
  · rfl
  · simp only [Bool.not_true, Bool.true_and, if_neg (show ¬ (false = true) by decide), Sem.run_bind, partR1, eqInt9, Result.andThen]
    cases (b == b' && t.toList == t'.toList) <;> rfl
set_option maxRecDepth 100000 in
theorem eqlRat (a b a' b' : Bool) (s t s' t' : ByteArray) (w : World) : (binOp .eql 25 (.agg #[.bool a, .string s, .bool b, .string t]) (.agg #[.bool a', .string s', .bool b', .string t'])).run Tryz.prog w = .ok (.bool (sameR a s b t a' s' b' t')) w := by
  rw [run_eql_struct, run_equalIn_agg w 9999 25 _ _ (by kernel_rfl) (by kernel_rfl), Tryz.fieldsRat]
  simp only [Op.eqFields]
  rw [if_pos (by decide)]
  rw [if_pos (by decide)]
  simp only [Sem.run_bind, partR0, eqInt9, Result.andThen]
  unfold sameR
  cases (a == a' && s.toList == s'.toList)
  · rfl
  · simp only [Bool.not_true, Bool.true_and, if_neg (show ¬ (false = true) by decide), Sem.run_bind, partR1, eqInt9, Result.andThen]
    cases (b == b' && t.toList == t'.toList) <;> rfl
theorem guardRat (x y : Operand) (a b a' b' : Bool) (s t s' t' : ByteArray) (w : World) : (eqGuard .neq 25 x y (.agg #[.bool a, .string s, .bool b, .string t]) (.agg #[.bool a', .string s', .bool b', .string t'])).run Tryz.prog w = .ok () w := run_eqGuard_agg w .neq 25 x y _ _ (by kernel_rfl)
theorem guardRat2 (x y : Operand) (a b a' b' : Bool) (s t s' t' : ByteArray) (w : World) : (eqGuard .eql 25 x y (.agg #[.bool a, .string s, .bool b, .string t]) (.agg #[.bool a', .string s', .bool b', .string t'])).run Tryz.prog w = .ok () w := run_eqGuard_agg w .eql 25 x y _ _ (by kernel_rfl)
attribute [go_sem ↓] neqRat eqlRat guardRat guardRat2
/-- Two rational numbers in lowest terms are the same values just if they are equal. -/
theorem mg_inj {x y : Int} (h1 : sg x = sg y) (h2 : (mg x).toList = (mg y).toList) : x = y := by
  have h3 : mg x = mg y := by
    have := toList_eq (mg x) (mg y)
    rw [h2] at this
    simpa using this
  rw [← zv_mg x, ← zv_mg y, h1, h3]
theorem sameR_ratV (p q : Rat) : sameR (sg p.num) (mg p.num) (sg (p.den : Int)) (mg (p.den : Int)) (sg q.num) (mg q.num) (sg (q.den : Int)) (mg (q.den : Int)) = decide (p = q) := by
  by_cases h : p = q
  · subst h; simp [sameR]
  · rw [decide_eq_false h]
    unfold sameR
    rw [Bool.eq_false_iff]
    intro hh
    simp only [Bool.and_eq_true, beq_iff_eq] at hh
    obtain ⟨⟨h1, h2⟩, h3, h4⟩ := hh
    have e1 := mg_inj h1 h2
    have e2 := mg_inj h3 h4
    exact h (Rat.ext e1 (by exact_mod_cast e2))
theorem sameR_self (a b : Bool) (s t : ByteArray) : sameR a s b t a s b t = true := by simp [sameR]
end Go.Proofs.YtabmhckgdncjlaaGreatDoor

namespace Go.Proofs.YtabmhckgdncjlaaGreatDoor
open Go.RowKit

theorem neg_pow_m (x : Int) (m : Nat) : (-x) ^ m = if m % 2 = 1 then -(x ^ m) else x ^ m := by
  induction m with
  | zero => simp
  | succ m ih =>
    rw [Int.pow_succ, Int.pow_succ, ih]
    rcases Nat.mod_two_eq_zero_or_one m with h | h
    · rw [if_neg (by omega), if_pos (by omega), Int.mul_neg]
    · rw [if_pos h, if_neg (by omega), Int.neg_mul_neg]
theorem zv_pow (na : Bool) (s : ByteArray) (m : Nat) : zv na s ^ m = if (na && (((m % 2 : Nat) : Int) == 1)) then -((vB s.data.toList ^ m : Nat) : Int) else ((vB s.data.toList ^ m : Nat) : Int) := by
  unfold zv
  cases na
  · simp [Int.natCast_pow]
  · rw [if_pos rfl, neg_pow_m, Int.natCast_pow]
    rcases Nat.mod_two_eq_zero_or_one m with h | h
    · rw [h, if_neg (by omega)]; rfl
    · rw [h, if_pos rfl]; rfl
theorem pow_room {N m : Nat} (hm : m ≤ 4096) (hl : m * nbits N ≤ 65536) : ∃ kk, N < 4294967296 ^ kk ∧ kk * m + 1 ≤ 10000000 := by
  refine ⟨nbits N / 32 + 1, ?_, ?_⟩
  · refine Nat.lt_of_lt_of_le (nbits_lt N) ?_
    rw [show (4294967296 : Nat) = 2 ^ 32 from rfl, ← Nat.pow_mul]
    exact Nat.pow_le_pow_right (by omega) (by omega)
  · have h1 : nbits N / 32 * m ≤ nbits N * m := Nat.mul_le_mul_right _ (Nat.div_le_self _ _)
    rw [Nat.mul_comm (nbits N) m] at h1
    rw [Nat.add_mul]
    omega

theorem nbits_le {N k : Nat} (h : N < 4294967296 ^ k) : nbits N ≤ 32 * k := by
  rcases Nat.eq_zero_or_pos N with h0 | h0
  · subst h0; exact Nat.zero_le _
  · have h1 := nbits_ge (N := N) (by omega)
    rw [show (4294967296 : Nat) = 2 ^ 32 from rfl, ← Nat.pow_mul] at h
    have := (Nat.pow_lt_pow_iff_right (a := 2) (by omega)).1 (Nat.lt_of_le_of_lt h1 h)
    omega

/-- What a call returns that fails. -/
def FailOut (w : World) (x : Int) (e : Ending) (w' : World) : Prop := e = .returned (.tuple #[.agg #[.bool false, .string ⟨#[]⟩], .int .i64 x]) ∧ Below w.heap.size w w'
/-- What a call returns that does not fail. -/
def GoodOut (w : World) (z : Int) (e : Ending) (w' : World) : Prop := e = .returned (.tuple #[.agg #[.bool (sg z), .string (mg z)], .int .i64 0]) ∧ Below w.heap.size w w'

set_option maxRecDepth 100000 in
set_option maxHeartbeats 3200000 in
theorem ipow_range (na : Bool) (sa : ByteArray) (m : Int) (w : World) (hm : m < 0 ∨ 4096 < m) :
    Calls Tryz.prog 51 #[.agg #[.bool na, .string sa], .int .i64 m] w (FailOut w 2) := by
  have hr := ResCell.new (w.alloc (.cells #[.bool na, .string sa] 23)) 23
  rw [World.size_alloc] at hr
  obtain ⟨r1, r2, r3, r4⟩ := hr
  have hb := below2 w (.cells #[.bool na, .string sa] 23) (.cells #[.bool false, .string ⟨#[]⟩] 23)
  rcases hm with hm | hm
  all_goals
    go_enter Tryz.func51, Tryz.ntmps51
    go_wp2
    exact bodyPost_ret (v := .tuple #[.agg #[.bool false, .string ⟨#[]⟩], .int .i64 2]) (by simp [results, Tryz.results51, go_sem, r1, r2]) rfl ⟨rfl, hb⟩

set_option maxRecDepth 100000 in
set_option maxHeartbeats 3200000 in
theorem ipow_any (v : Value) (z : Int) (k m : Nat) (w : World) (h : IsInt v z k) (hm : m ≤ 4096) (hl : m * nbits z.natAbs ≤ 65536) :
    Calls Tryz.prog 51 #[v, .int .i64 (m : Int)] w (GoodOut w (z ^ m)) := by
  have Hi : Hid (IsInt v z k) := h
  obtain ⟨na, sa, rfl, hz, hs, hk, hkk⟩ := h
  have hN : vB sa.data.toList = z.natAbs := by rw [← natAbs_zv na sa, hz]
  have HN := Lib.hid hN
  have Hp : Hid (z ^ m = if (na && (((m % 2 : Nat) : Int) == 1)) then -((z.natAbs ^ m : Nat) : Int) else ((z.natAbs ^ m : Nat) : Int)) := by
    rw [← hz]; exact (zv_pow na sa m).trans (by rw [hN, hz])
  have Hk : Hid (z.natAbs < 4294967296 ^ k) := hk
  have hroom := pow_room hm hl
  have Hkk : Hid (∃ kk, z.natAbs < 4294967296 ^ kk ∧ kk * m + 1 ≤ 10000000) := hroom
  have hmul : IntKind.i64.wrap ((m : Int) * (nbits z.natAbs : Int)) = ((m * nbits z.natAbs : Nat) : Int) := by rw [IntKind.wrap_i64, Int.natCast_mul]; rw [← Int.natCast_mul]; omega
  clear hz hk hN hroom
  generalize m * nbits z.natAbs = t at *
  obtain ⟨nb, hnb⟩ : ∃ nb, nb = nbits z.natAbs := ⟨_, rfl⟩
  have Hb : Hid (nbits z.natAbs = nb) := hnb.symm
  rw [← hnb] at hmul
  clear hnb
  have q1 : (m : Int).tmod 2 = ((m % 2 : Nat) : Int) := Int.tmod_eq_emod_of_nonneg (by omega)
  have q2 : IntKind.i64.wrap ((m % 2 : Nat) : Int) = ((m % 2 : Nat) : Int) := by rw [IntKind.wrap_i64]; omega
  generalize m % 2 = r at *
  have hr := ResCell.new (w.alloc (.cells #[.bool na, .string sa] 23)) 23
  rw [World.size_alloc] at hr
  have hb := below2 w (.cells #[.bool na, .string sa] 23) (.cells #[.bool false, .string ⟨#[]⟩] 23)
  have c1 : ((w.alloc (.cells #[.bool na, .string sa] 23)).alloc (.cells #[.bool false, .string ⟨#[]⟩] 23)).cell? ⟨w.heap.size, 0, none⟩ = some (.bool na) := by simp [go_sem]
  have c2 : ((w.alloc (.cells #[.bool na, .string sa] 23)).alloc (.cells #[.bool false, .string ⟨#[]⟩] 23)).cell? ⟨w.heap.size, 1, none⟩ = some (.string sa) := by simp [go_sem]
  go_enter Tryz.func51, Tryz.ntmps51
  go_wp2_with fail
  refine (ibits_any _ z k _ Hi.out).mono ?_
  rintro e W1 ⟨rfl, b1⟩
  rw [Hb.out]
  have y1 := cell_keep c1 b1
  have y2 := cell_keep c2 b1
  have HR := hr.keep b1
  clear c1 c2 hr
  have hb1 := below_more hb (Nat.le_refl _) b1
  cases na
  all_goals
    go_wp2_with fail
    refine (magnitude_any _ sa _ (by omega)).mono ?_
    rintro e W2 ⟨A, n, c, rfl, i2, b2⟩
    rw [HN.out] at i2
    have l2 : n ≤ 10000000 := by have := i2.len Hk.out; omega
    obtain ⟨kk, hkk1, hkk2⟩ := Hkk.out
    have Hkk3 : Hid (z.natAbs ^ m < 4294967296 ^ (kk * m + 1)) := pow_bound hkk1 (Nat.le_refl _)
    go_wp2_with fail
    refine (power_any A n c z.natAbs m kk _ i2 (by omega) hkk1 hkk2 l2).mono ?_
    rintro e W3 ⟨A3, n3, c3, rfl, i3, b3⟩
    have l3 : n3 ≤ 1000000000 := by have := i3.len Hkk3.out; omega
    go_wp2_with fail
    refine (signed_any _ A3 n3 c3 _ _ i3 l3).mono ?_
    rintro e W4 ⟨rfl, b4⟩
    first | rw [ivN_eq false _ (z ^ m) Hp.out] | rw [ivN_eq (((r : Nat) : Int) == 1) _ (z ^ m) Hp.out]
    obtain ⟨r1, r2, r3, r4⟩ := ((HR.keep b2).keep b3).keep b4
    go_wp2
    exact bodyPost_ret (v := .tuple #[.agg #[.bool (sg (z ^ m)), .string (mg (z ^ m))], .int .i64 0]) (by simp [results, Tryz.results51, go_sem, r1, r2]) rfl ⟨rfl, below_more2 (below_more (below_more hb1 (Nat.le_refl _) b2) (Nat.le_refl _) b3) (Nat.le_refl _) b4 (by show w.heap.size ≤ w.heap.size + 1; omega) (by show w.heap.size ≤ w.heap.size + 1; omega)⟩

/-- The power would be too great. -/
theorem ipow_limit (v : Value) (z : Int) (k m : Nat) (w : World) (h : IsInt v z k) (hm : m ≤ 4096) (hl : 65536 < m * nbits z.natAbs) :
    Calls Tryz.prog 51 #[v, .int .i64 (m : Int)] w (FailOut w 4) := by
  have Hi : Hid (IsInt v z k) := h
  obtain ⟨na, sa, rfl, hz, hs, hk, hkk⟩ := h
  have hnb := nbits_le hk
  have hmul : IntKind.i64.wrap ((m : Int) * (nbits z.natAbs : Int)) = ((m * nbits z.natAbs : Nat) : Int) := by
    have : m * nbits z.natAbs ≤ 4096 * nbits z.natAbs := Nat.mul_le_mul_right _ hm
    rw [IntKind.wrap_i64, ← Int.natCast_mul]; omega
  clear hz hk
  generalize m * nbits z.natAbs = t at *
  obtain ⟨nb, hnb⟩ : ∃ nb, nb = nbits z.natAbs := ⟨_, rfl⟩
  have Hb : Hid (nbits z.natAbs = nb) := hnb.symm
  rw [← hnb] at hmul
  clear hnb
  have hr := ResCell.new (w.alloc (.cells #[.bool na, .string sa] 23)) 23
  rw [World.size_alloc] at hr
  have hb := below2 w (.cells #[.bool na, .string sa] 23) (.cells #[.bool false, .string ⟨#[]⟩] 23)
  go_enter Tryz.func51, Tryz.ntmps51
  go_wp2_with fail
  refine (ibits_any _ z k _ Hi.out).mono ?_
  rintro e W1 ⟨rfl, b1⟩
  rw [Hb.out]
  obtain ⟨r1, r2, r3, r4⟩ := hr.keep b1
  go_wp2
  exact bodyPost_ret (v := .tuple #[.agg #[.bool false, .string ⟨#[]⟩], .int .i64 4]) (by simp [results, Tryz.results51, go_sem, r1, r2]) rfl ⟨rfl, below_more2 hb (Nat.le_refl _) b1 (by show w.heap.size ≤ w.heap.size + 1; omega) (by show w.heap.size ≤ w.heap.size + 1; omega)⟩
end Go.Proofs.YtabmhckgdncjlaaGreatDoor
