/- What rational.Add, Sub, Mul, Quo, Ratio, Neg and Floor return. Condition: the integers have at most 10^6 digits to the base 2^32. What rational.Floor, Power, Check and Print return. Condition: the integers have at most 4*10^6 digits to the base 2^32. The simplest number between two others: the run of the two continued fractions. Plain facts; no condition. What the closure of rational.commonTerms does with a loop whose rounds go on with the convergents. Condition: the integers have at most 10^6 digits to the base 2^32. -/
import Derived.Test.YtfcdekkoeeaolaaGreatDoorQ46
import Derived.Test.YtfcdekkoeeaolaaGreatDoorQ47
import Derived.Test.YtfcdekkoeeaolaaGreatDoorQ48
import Derived.Test.YtfcdekkoeeaolaaGreatDoorQ49
import Derived.Test.YtfcdekkoeeaolaaGreatDoorQ50
import Derived.Test.YtfcdekkoeeaolaaGreatDoorQ40
import Derived.Test.YtfcdekkoeeaolaaGreatDoorQ23
import Derived.Test.YtfcdekkoeeaolaaGreatDoorQ31
import Derived.Test.YtfcdekkoeeaolaaGreatDoorQ39
import Derived.Test.YtfcdekkoeeaolaaGreatDoorQ24

namespace Go.Proofs.YtfcdekkoeeaolaaGreatDoor
open Go.RowKit
set_option linter.unusedSimpArgs false

set_option maxRecDepth 100000 in
theorem radd_any (v1 v2 : Value) (p q r : Rat) (k : Nat) (w : World) (h1 : IsRat v1 p k) (h2 : IsRat v2 q k) (hk : k ≤ 1000000) (hr : p + q = r) :
    Calls Tryz.prog 36 #[v1, v2] w (RatOut w r) := by
  have Hr := Lib.hid hr
  have H1 := Lib.hid h1
  have H2 := Lib.hid h2
  clear hr
  obtain ⟨na, sa, nb, sb, -, -, rfl, -⟩ := h1
  obtain ⟨nc, sc, nd, sd, -, -, rfl, -⟩ := h2
  have P0 := ResRat.new ((w.alloc (.cells #[.bool na, .string sa, .bool nb, .string sb] 36)).alloc (.cells #[.bool nc, .string sc, .bool nd, .string sd] 36))
  rw [World.size_alloc, World.size_alloc] at P0
  have B0 := below3 w (.cells #[.bool na, .string sa, .bool nb, .string sb] 36) (.cells #[.bool nc, .string sc, .bool nd, .string sd] 36) (.cells #[.bool false, .string ⟨#[]⟩, .bool false, .string ⟨#[]⟩] 36)
  go_enter Tryz.func36, Tryz.ntmps36
  go_wp2_with fail
  refine (app0_any _ _ p q k _ H1.out H2.out hk).mono ?_
  rw [Hr.out]
  rintro e W1 ⟨rfl, b1⟩
  have hbl := below1 W1 (.cells #[.bool (sg (r).num), .string (mg (r).num), .bool (sg ((r).den : Int)), .string (mg ((r).den : Int))] 36)
  have P1 := (P0.keep b1).keep hbl
  have S1 : RIn (W1.alloc (.cells #[.bool (sg (r).num), .string (mg (r).num), .bool (sg ((r).den : Int)), .string (mg ((r).den : Int))] 36)) W1.heap.size (sg r.num) (mg r.num) (sg (r.den : Int)) (mg (r.den : Int)) := RIn.new rfl
  have B1 := below_more (below_more B0 (Nat.le_refl _) b1) (Nat.le_refl _) hbl
  clear P0 B0 b1 hbl
  unfold ratV
  go_upto_region 2 with fail
  generalize W1.alloc (.cells #[.bool (sg (r).num), .string (mg (r).num), .bool (sg ((r).den : Int)), .string (mg ((r).den : Int))] 36) = W2 at *
  generalize W1.heap.size = p5 at *
  obtain ⟨⟨r1, r2, r3, r4⟩, r5, r6, r7, r8⟩ := P1
  obtain ⟨t1, t2, t3, t4⟩ := S1
  go_wp2
  exact bodyPost_ret (v := ratV r) (by simp [results, Tryz.results36, go_sem, r1, r2, r3, r4, ratV]) rfl ⟨rfl, below4s B1 _ (by omega) _ _ _ _⟩
set_option maxRecDepth 100000 in
theorem rsub_any (v1 v2 : Value) (p q r : Rat) (k : Nat) (w : World) (h1 : IsRat v1 p k) (h2 : IsRat v2 q k) (hk : k ≤ 1000000) (hr : p - q = r) :
    Calls Tryz.prog 38 #[v1, v2] w (RatOut w r) := by
  have Hr := Lib.hid hr
  have H1 := Lib.hid h1
  have H2 := Lib.hid h2
  clear hr
  obtain ⟨na, sa, nb, sb, -, -, rfl, -⟩ := h1
  obtain ⟨nc, sc, nd, sd, -, -, rfl, -⟩ := h2
  have P0 := ResRat.new ((w.alloc (.cells #[.bool na, .string sa, .bool nb, .string sb] 36)).alloc (.cells #[.bool nc, .string sc, .bool nd, .string sd] 36))
  rw [World.size_alloc, World.size_alloc] at P0
  have B0 := below3 w (.cells #[.bool na, .string sa, .bool nb, .string sb] 36) (.cells #[.bool nc, .string sc, .bool nd, .string sd] 36) (.cells #[.bool false, .string ⟨#[]⟩, .bool false, .string ⟨#[]⟩] 36)
  go_enter Tryz.func38, Tryz.ntmps38
  go_wp2_with fail
  refine (app1_any _ _ p q k _ H1.out H2.out hk).mono ?_
  rw [Hr.out]
  rintro e W1 ⟨rfl, b1⟩
  have hbl := below1 W1 (.cells #[.bool (sg (r).num), .string (mg (r).num), .bool (sg ((r).den : Int)), .string (mg ((r).den : Int))] 36)
  have P1 := (P0.keep b1).keep hbl
  have S1 : RIn (W1.alloc (.cells #[.bool (sg (r).num), .string (mg (r).num), .bool (sg ((r).den : Int)), .string (mg ((r).den : Int))] 36)) W1.heap.size (sg r.num) (mg r.num) (sg (r.den : Int)) (mg (r.den : Int)) := RIn.new rfl
  have B1 := below_more (below_more B0 (Nat.le_refl _) b1) (Nat.le_refl _) hbl
  clear P0 B0 b1 hbl
  unfold ratV
  go_upto_region 2 with fail
  generalize W1.alloc (.cells #[.bool (sg (r).num), .string (mg (r).num), .bool (sg ((r).den : Int)), .string (mg ((r).den : Int))] 36) = W2 at *
  generalize W1.heap.size = p5 at *
  obtain ⟨⟨r1, r2, r3, r4⟩, r5, r6, r7, r8⟩ := P1
  obtain ⟨t1, t2, t3, t4⟩ := S1
  go_wp2
  exact bodyPost_ret (v := ratV r) (by simp [results, Tryz.results38, go_sem, r1, r2, r3, r4, ratV]) rfl ⟨rfl, below4s B1 _ (by omega) _ _ _ _⟩
set_option maxRecDepth 100000 in
theorem rmul_any (v1 v2 : Value) (p q r : Rat) (k : Nat) (w : World) (h1 : IsRat v1 p k) (h2 : IsRat v2 q k) (hk : k ≤ 1000000) (hr : p * q = r) :
    Calls Tryz.prog 40 #[v1, v2] w (RatOut w r) := by
  have Hr := Lib.hid hr
  have H1 := Lib.hid h1
  have H2 := Lib.hid h2
  clear hr
  obtain ⟨na, sa, nb, sb, -, -, rfl, -⟩ := h1
  obtain ⟨nc, sc, nd, sd, -, -, rfl, -⟩ := h2
  have P0 := ResRat.new ((w.alloc (.cells #[.bool na, .string sa, .bool nb, .string sb] 36)).alloc (.cells #[.bool nc, .string sc, .bool nd, .string sd] 36))
  rw [World.size_alloc, World.size_alloc] at P0
  have B0 := below3 w (.cells #[.bool na, .string sa, .bool nb, .string sb] 36) (.cells #[.bool nc, .string sc, .bool nd, .string sd] 36) (.cells #[.bool false, .string ⟨#[]⟩, .bool false, .string ⟨#[]⟩] 36)
  go_enter Tryz.func40, Tryz.ntmps40
  go_wp2_with fail
  refine (app2_any _ _ p q k _ H1.out H2.out hk).mono ?_
  rw [Hr.out]
  rintro e W1 ⟨rfl, b1⟩
  have hbl := below1 W1 (.cells #[.bool (sg (r).num), .string (mg (r).num), .bool (sg ((r).den : Int)), .string (mg ((r).den : Int))] 36)
  have P1 := (P0.keep b1).keep hbl
  have S1 : RIn (W1.alloc (.cells #[.bool (sg (r).num), .string (mg (r).num), .bool (sg ((r).den : Int)), .string (mg ((r).den : Int))] 36)) W1.heap.size (sg r.num) (mg r.num) (sg (r.den : Int)) (mg (r.den : Int)) := RIn.new rfl
  have B1 := below_more (below_more B0 (Nat.le_refl _) b1) (Nat.le_refl _) hbl
  clear P0 B0 b1 hbl
  unfold ratV
  go_upto_region 2 with fail
  generalize W1.alloc (.cells #[.bool (sg (r).num), .string (mg (r).num), .bool (sg ((r).den : Int)), .string (mg ((r).den : Int))] 36) = W2 at *
  generalize W1.heap.size = p5 at *
  obtain ⟨⟨r1, r2, r3, r4⟩, r5, r6, r7, r8⟩ := P1
  obtain ⟨t1, t2, t3, t4⟩ := S1
  go_wp2
  exact bodyPost_ret (v := ratV r) (by simp [results, Tryz.results40, go_sem, r1, r2, r3, r4, ratV]) rfl ⟨rfl, below4s B1 _ (by omega) _ _ _ _⟩
set_option maxRecDepth 100000 in
theorem rquo_some (v1 v2 : Value) (p q r : Rat) (k : Nat) (w : World) (h1 : IsRat v1 p k) (h2 : IsRat v2 q k) (hk : k ≤ 1000000) (h0 : q ≠ 0) (hr : p / q = r) :
    Calls Tryz.prog 30 #[v1, v2] w (RatGood w r) := by
  have H0 := Lib.hid h0
  have H1 := Lib.hid h1
  have H2 := Lib.hid h2
  clear h0
  obtain ⟨na, sa, nb, sb, -, -, rfl, -⟩ := h1
  obtain ⟨nc, sc, nd, sd, -, -, rfl, -⟩ := h2
  have P0 := ResRat.new ((w.alloc (.cells #[.bool na, .string sa, .bool nb, .string sb] 36)).alloc (.cells #[.bool nc, .string sc, .bool nd, .string sd] 36))
  rw [World.size_alloc, World.size_alloc] at P0
  have B0 := below3 w (.cells #[.bool na, .string sa, .bool nb, .string sb] 36) (.cells #[.bool nc, .string sc, .bool nd, .string sd] 36) (.cells #[.bool false, .string ⟨#[]⟩, .bool false, .string ⟨#[]⟩] 36)
  go_enter Tryz.func30, Tryz.ntmps30
  go_wp2_with fail
  refine (app3_any _ _ p q k _ H1.out H2.out hk H0.out).mono ?_
  rw [hr]
  rintro e W1 ⟨rfl, b1⟩
  have P1 := P0.keep b1
  have B1 := below_more B0 (Nat.le_refl _) b1
  clear P0 B0 b1
  try unfold ratV
  obtain ⟨⟨r1, r2, r3, r4⟩, r5, r6, r7, r8⟩ := P1
  go_wp2
  exact bodyPost_ret (v := .tuple #[ratV r, .int .i64 0]) (by simp [results, Tryz.results30, go_sem, r1, r2, r3, r4, ratV]) rfl ⟨rfl, below4s B1 _ (by omega) _ _ _ _⟩
set_option maxRecDepth 100000 in
theorem rquo_none (v1 v2 : Value) (p q : Rat) (k : Nat) (w : World) (h1 : IsRat v1 p k) (h2 : IsRat v2 q k) (hk : k ≤ 1000000) (h0 : q = 0) :
    Calls Tryz.prog 30 #[v1, v2] w (RatFail w 9) := by
  have H0 := Lib.hid h0
  have H1 := Lib.hid h1
  have H2 := Lib.hid h2
  clear h0
  obtain ⟨na, sa, nb, sb, -, -, rfl, -⟩ := h1
  obtain ⟨nc, sc, nd, sd, -, -, rfl, -⟩ := h2
  have P0 := ResRat.new ((w.alloc (.cells #[.bool na, .string sa, .bool nb, .string sb] 36)).alloc (.cells #[.bool nc, .string sc, .bool nd, .string sd] 36))
  rw [World.size_alloc, World.size_alloc] at P0
  have B0 := below3 w (.cells #[.bool na, .string sa, .bool nb, .string sb] 36) (.cells #[.bool nc, .string sc, .bool nd, .string sd] 36) (.cells #[.bool false, .string ⟨#[]⟩, .bool false, .string ⟨#[]⟩] 36)
  go_enter Tryz.func30, Tryz.ntmps30
  go_wp2_with fail
  refine (appZ_any _ _ p q k _ H1.out H2.out hk H0.out).mono ?_
  rintro e W1 ⟨rfl, b1⟩
  have P1 := P0.keep b1
  have B1 := below_more B0 (Nat.le_refl _) b1
  clear P0 B0 b1
  try unfold ratV
  obtain ⟨⟨r1, r2, r3, r4⟩, r5, r6, r7, r8⟩ := P1
  go_wp2
  exact bodyPost_ret (v := .tuple #[.agg #[.bool false, .string ⟨#[]⟩, .bool false, .string ⟨#[]⟩], .int .i64 9]) (by simp [results, Tryz.results30, go_sem, r1, r2, r3, r4, ratV]) rfl ⟨rfl, below4s B1 _ (by omega) _ _ _ _⟩

set_option maxRecDepth 100000 in
theorem ratio_any (n d : Int) (r : Rat) (w : World) (hn : -9223372036854775808 ≤ n) (hn' : n ≤ 9223372036854775807) (hd : -9223372036854775808 ≤ d) (hd' : d ≤ 9223372036854775807) (h0 : d ≠ 0) (hr : Rat.divInt n d = r) :
    Calls Tryz.prog 28 #[.int .i64 n, .int .i64 d] w (RatGood w r) := by
  have Hr := Lib.hid hr
  have H0 := Lib.hid h0
  have In := Lib.hid (show IsInt (.agg #[.bool (sg n), .string (mg n)]) n 2 from isInt_mg (by omega) (by omega))
  have Id := Lib.hid (show IsInt (.agg #[.bool (sg d), .string (mg d)]) d 2 from isInt_mg (by omega) (by omega))
  clear hr h0
  have P0 := ResRat.new w
  have B0 := below1 w (.cells #[.bool false, .string ⟨#[]⟩, .bool false, .string ⟨#[]⟩] 36)
  go_enter Tryz.func28, Tryz.ntmps28
  go_wp2_with fail
  refine (iof_any n _ hn hn').mono ?_
  rintro e W1 ⟨rfl, b1⟩
  go_wp2_with fail
  refine (iof_any d _ hd hd').mono ?_
  rintro e W2 ⟨rfl, b2⟩
  go_wp2_with fail
  refine (new_some _ _ n d 2 _ In.out Id.out H0.out).mono ?_
  rw [Hr.out]
  rintro e W3 ⟨rfl, b3⟩
  have P1 := ((P0.keep b1).keep b2).keep b3
  have B1 := below_more (below_more (below_more B0 (Nat.le_refl _) b1) (Nat.le_refl _) b2) (Nat.le_refl _) b3
  unfold ratV
  obtain ⟨⟨r1, r2, r3, r4⟩, r5, r6, r7, r8⟩ := P1
  go_wp2
  exact bodyPost_ret (v := .tuple #[ratV r, .int .i64 0]) (by simp [results, Tryz.results28, go_sem, r1, r2, r3, r4, ratV]) rfl ⟨rfl, below4s B1 _ (Nat.le_refl _) _ _ _ _⟩

set_option maxRecDepth 100000 in
set_option maxHeartbeats 3200000 in
theorem rneg_any (v1 : Value) (q r : Rat) (k : Nat) (w : World) (h1 : IsRat v1 q k) (hk : k ≤ 4000000) (hr : -q = r) : Calls Tryz.prog 42 #[v1] w (RatOut w r) := by
  have Hr := Lib.hid (show -q.num = r.num ∧ q.den = r.den by rw [← hr]; exact ⟨rfl, rfl⟩)
  have H1 := Lib.hid h1
  have Hb := Lib.hid (show RatBd q (k + 1) by
    obtain ⟨_, _, _, _, n, d, _, h2, h3, rfl⟩ := h1
    exact ratBd_divInt h2.bd h3.bd)
  obtain ⟨na, sa, nb, sb, -, -, rfl, -⟩ := h1
  have P0 := ResRat.new (w.alloc (.cells #[.bool na, .string sa, .bool nb, .string sb] 36))
  rw [World.size_alloc] at P0
  have B0 := below2 w (.cells #[.bool na, .string sa, .bool nb, .string sb] 36) (.cells #[.bool false, .string ⟨#[]⟩, .bool false, .string ⟨#[]⟩] 36)
  go_enter Tryz.func42, Tryz.ntmps42
  go_wp2_with fail
  refine (rcanon_any _ q k _ H1.out).mono ?_
  rintro e W1 ⟨rfl, b1⟩
  have hbl := below1 W1 (.cells #[.bool (sg q.num), .string (mg q.num), .bool (sg (q.den : Int)), .string (mg (q.den : Int))] 36)
  have P1 := (P0.keep b1).keep hbl
  have L1 := (P0.keep b1).1.lt
  have S1 : RIn (W1.alloc (.cells #[.bool (sg q.num), .string (mg q.num), .bool (sg (q.den : Int)), .string (mg (q.den : Int))] 36)) W1.heap.size (sg q.num) (mg q.num) (sg (q.den : Int)) (mg (q.den : Int)) := RIn.new rfl
  have B1 := below_more (below_more B0 (Nat.le_refl _) b1) (Nat.le_refl _) hbl
  have Iq := Lib.hid (isInt_mg Hb.out.1 (by omega))
  clear P0 B0 b1 hbl
  unfold ratV
  go_upto_region 2 with fail
  generalize W1.alloc (.cells #[.bool (sg q.num), .string (mg q.num), .bool (sg (q.den : Int)), .string (mg (q.den : Int))] 36) = W2 at *
  generalize W1.heap.size = p3 at *
  have S2 : RIn W2.drew p3 (sg q.num) (mg q.num) (sg (q.den : Int)) (mg (q.den : Int)) := S1
  have L3 := S1.lt
  have hne : p3 ≠ w.heap.size + 1 := by omega
  go_region_held3 (fun W => W.cell? ⟨p3, 0, none⟩ = some (.bool (sg q.num)) ∧ W.cell? ⟨p3, 1, none⟩ = some (.string (mg q.num)) ∧ W.cell? ⟨p3, 2, none⟩ = some (.bool (sg (q.den : Int))) ∧ W.cell? ⟨p3, 3, none⟩ = some (.string (mg (q.den : Int)))) (first | exact S1 | exact S2 | exact RIn.keep S2 (by assumption) | exact ((((RIn.keep S2 (by assumption)).set _ hne _).set _ hne _).set _ hne _).set _ hne _ | go_keep)
    (first
      | (go_at_call 71; refine (ineg_eq Iq.out Hr.out.1).mono ?_; rintro e W3 ⟨rfl, b3⟩; obtain ⟨⟨r1, r2, r3, r4⟩, r5, r6, r7, r8⟩ := P1.drew.keep b3))
  all_goals
    go_wp2
    exact bodyPost_ret (v := ratV r) (by simp [results, Tryz.results42, go_sem, r1, r2, r3, r4, ratV, Hr.out.2]) rfl ⟨rfl, below4s (below_more B1.drew (Nat.le_refl _) b3) _ (by omega) _ _ _ _⟩
end Go.Proofs.YtfcdekkoeeaolaaGreatDoor

namespace Go.Proofs.YtfcdekkoeeaolaaGreatDoor
open Go.RowKit
set_option linter.unusedSimpArgs false

theorem print_is {v : Value} {z : Int} {k : Nat} {w : World} {T : List UInt8} (h : IsInt v z k) (htab : Lib.TabIs Tryz.prog w "internal/strconv.uint64pow10" .u64 Lib.pow10Tab) (e : prZ z = T) :
    Calls Tryz.prog 58 #[v] w fun e w' => e = .returned (.string ⟨T.toArray⟩) ∧ Below w.heap.size w w' := e ▸ print_any v z k w h htab

set_option maxRecDepth 100000 in
theorem rfloor_any (v1 : Value) (q : Rat) (f : Int) (k : Nat) (w : World) (h1 : IsRat v1 q k) (hf : q.floor = f) : Calls Tryz.prog 46 #[v1] w (IntOut w f) := by
  obtain ⟨na, sa, nb, sb, n, d, rfl, hn, hd, hq⟩ := h1
  have In := Lib.hid hn
  have Id := Lib.hid hd
  clear hn hd
  have P0 := ResCell.new (w.alloc (.cells #[.bool na, .string sa, .bool nb, .string sb] 36)) 23
  rw [World.size_alloc] at P0
  have B0 := below2 w (.cells #[.bool na, .string sa, .bool nb, .string sb] 36) (.cells #[.bool false, .string ⟨#[]⟩] 23)
  have hpair : ∃ r er : Int, Hid (∀ W : World, Calls Tryz.prog 16 #[.agg #[.bool na, .string sa], .agg #[.bool nb, .string sb]] W fun e W' => e = .returned (.tuple #[.agg #[.bool (sg f), .string (mg f)], .agg #[.bool (sg r), .string (mg r)], .int .i64 er]) ∧ Below W.heap.size W W') := by
    by_cases h0 : d = 0
    · refine ⟨0, 9, Lib.hid fun W => ?_⟩
      have e0 : f = 0 := by rw [← hf, ← hq, h0, Rat.divInt_zero]; rfl
      rw [e0, sg_zero, mg_zero]
      exact ezero_eq In.out Id.out h0
    · exact ⟨rD n d, 0, Lib.hid fun W => ediv_eq In.out Id.out h0 (by rw [qD_floor h0, hq, hf]) rfl⟩
  obtain ⟨r, er, Hd⟩ := hpair
  clear hq hf
  go_enter Tryz.func46, Tryz.ntmps46
  go_wp2_with fail
  refine (Hd.out _).mono ?_
  rintro e W1 ⟨rfl, b1⟩
  have hbl := below2 W1 (.cells #[.bool (sg f), .string (mg f)] 23) (.cells #[.bool (sg r), .string (mg r)] 23)
  have L1 := World.block_lt_of_cell? W1 _ (P0.keep b1).1
  have P1 := (P0.keep b1).keep hbl
  have S1 : ((W1.alloc (.cells #[.bool (sg f), .string (mg f)] 23)).alloc (.cells #[.bool (sg r), .string (mg r)] 23)).cell? ⟨W1.heap.size, 0, none⟩ = some (.bool (sg f)) := by simp [go_sem]
  have S2 : ((W1.alloc (.cells #[.bool (sg f), .string (mg f)] 23)).alloc (.cells #[.bool (sg r), .string (mg r)] 23)).cell? ⟨W1.heap.size, 1, none⟩ = some (.string (mg f)) := by simp [go_sem]
  have B1 := below_more (below_more B0 (Nat.le_refl _) b1) (Nat.le_refl _) hbl
  clear P0 B0 b1 hbl
  go_upto_region 2 with fail
  generalize ((W1.alloc (.cells #[.bool (sg f), .string (mg f)] 23)).alloc (.cells #[.bool (sg r), .string (mg r)] 23)) = W2 at *
  generalize W1.heap.size = p3 at *
  obtain ⟨r1, r2, r3, r4⟩ := P1
  go_wp2
  exact bodyPost_ret (v := .agg #[.bool (sg f), .string (mg f)]) (by simp [results, Tryz.results46, go_sem, r1, r2]) rfl ⟨rfl, (B1.setCell (by dsimp only; omega) _).setCell (by dsimp only; omega) _⟩

theorem pw_num (q : Rat) (m : Nat) : (q ^ m).num = q.num ^ m := rfl
theorem pw_den (q : Rat) (m : Nat) : (((q ^ m).den : Nat) : Int) = (q.den : Int) ^ m := by rw [Rat.den_pow]; exact Int.natCast_pow _ _
set_option maxRecDepth 100000 in
theorem rpow_any (v1 : Value) (q r : Rat) (k m : Nat) (w : World) (h1 : IsRat v1 q k) (hk : k ≤ 4000000) (hm : m ≤ 4096) (hb1 : m * nbits q.num.natAbs ≤ 65536) (hb2 : m * nbits q.den ≤ 65536) (hr : q ^ m = r) :
    Calls Tryz.prog 48 #[v1, .int .i64 (m : Int)] w (RatGood w r) := by
  have Hn := Lib.hid (show q.num ^ m = r.num by rw [← hr]; rfl)
  have Hd := Lib.hid (show (q.den : Int) ^ m = (r.den : Int) by rw [← hr]; exact (pw_den q m).symm)
  have H1 := Lib.hid h1
  have Hb := Lib.hid (show RatBd q (k + 1) by
    obtain ⟨_, _, _, _, n, d, _, h2, h3, rfl⟩ := h1
    exact ratBd_divInt h2.bd h3.bd)
  have Hb1 := Lib.hid hb1
  have Hb2 := Lib.hid (show m * nbits (q.den : Int).natAbs ≤ 65536 by rw [Int.natAbs_natCast]; exact hb2)
  clear hr hb1 hb2
  obtain ⟨na, sa, nb, sb, -, -, rfl, -⟩ := h1
  have P0 := ResRat.new (w.alloc (.cells #[.bool na, .string sa, .bool nb, .string sb] 36))
  rw [World.size_alloc] at P0
  have B0 := below2 w (.cells #[.bool na, .string sa, .bool nb, .string sb] 36) (.cells #[.bool false, .string ⟨#[]⟩, .bool false, .string ⟨#[]⟩] 36)
  have I1 := Lib.hid (isInt_mg Hb.out.1 (by omega))
  have I2 := Lib.hid (isInt_mg (show (q.den : Int).natAbs < _ by rw [Int.natAbs_natCast]; exact Hb.out.2) (by omega))
  go_enter Tryz.func48, Tryz.ntmps48
  go_wp2_with fail
  refine (rcanon_any _ q k _ H1.out).mono ?_
  rintro e W1 ⟨rfl, b1⟩
  have hbl := below1 W1 (.cells #[.bool (sg q.num), .string (mg q.num), .bool (sg (q.den : Int)), .string (mg (q.den : Int))] 36)
  have P1 := (P0.keep b1).keep hbl
  have S1 : RIn (W1.alloc (.cells #[.bool (sg q.num), .string (mg q.num), .bool (sg (q.den : Int)), .string (mg (q.den : Int))] 36)) W1.heap.size (sg q.num) (mg q.num) (sg (q.den : Int)) (mg (q.den : Int)) := RIn.new rfl
  have B1 := below_more (below_more B0 (Nat.le_refl _) b1) (Nat.le_refl _) hbl
  clear P0 B0 b1 hbl
  unfold ratV
  go_upto_region 2 with fail
  generalize W1.alloc (.cells #[.bool (sg q.num), .string (mg q.num), .bool (sg (q.den : Int)), .string (mg (q.den : Int))] 36) = W2 at *
  generalize W1.heap.size = p6 at *
  obtain ⟨t1, t2, t3, t4⟩ := id S1
  go_wp2_with fail
  refine (ipow_any _ q.num (k + 1) m _ I1.out hm Hb1.out).mono ?_
  rw [Hn.out]
  rintro e W3 ⟨rfl, b3⟩
  have hbl := below1 W3 (.cells #[.bool (sg r.num), .string (mg r.num)] 23)
  have P2 := (P1.keep b3).keep hbl
  have S2 := (S1.keep b3).keep hbl
  have x1 : (W3.alloc (.cells #[.bool (sg r.num), .string (mg r.num)] 23)).cell? ⟨W3.heap.size, 0, none⟩ = some (.bool (sg r.num)) := by simp [go_sem]
  have x2 : (W3.alloc (.cells #[.bool (sg r.num), .string (mg r.num)] 23)).cell? ⟨W3.heap.size, 1, none⟩ = some (.string (mg r.num)) := by simp [go_sem]
  have B2 := below_more (below_more B1 (Nat.le_refl _) b3) (Nat.le_refl _) hbl
  clear P1 S1 B1 b3 hbl t1 t2 t3 t4
  go_upto_region 3 with fail
  generalize W3.alloc (.cells #[.bool (sg r.num), .string (mg r.num)] 23) = W4 at *
  generalize W3.heap.size = p7 at *
  obtain ⟨t1, t2, t3, t4⟩ := id S2
  go_wp2_with fail
  refine (ipow_any _ (q.den : Int) (k + 1) m _ I2.out hm Hb2.out).mono ?_
  rw [Hd.out]
  rintro e W5 ⟨rfl, b5⟩
  have hbl := below1 W5 (.cells #[.bool (sg (r.den : Int)), .string (mg (r.den : Int))] 23)
  have P3 := (P2.keep b5).keep hbl
  have y1 := cell_keep (cell_keep x1 b5) hbl
  have y2 := cell_keep (cell_keep x2 b5) hbl
  have y3 : (W5.alloc (.cells #[.bool (sg (r.den : Int)), .string (mg (r.den : Int))] 23)).cell? ⟨W5.heap.size, 0, none⟩ = some (.bool (sg (r.den : Int))) := by simp [go_sem]
  have y4 : (W5.alloc (.cells #[.bool (sg (r.den : Int)), .string (mg (r.den : Int))] 23)).cell? ⟨W5.heap.size, 1, none⟩ = some (.string (mg (r.den : Int))) := by simp [go_sem]
  have B3 := below_more (below_more B2 (Nat.le_refl _) b5) (Nat.le_refl _) hbl
  clear P2 S2 B2 b5 hbl t1 t2 t3 t4 x1 x2
  go_upto_region 6 with fail
  generalize W5.alloc (.cells #[.bool (sg (r.den : Int)), .string (mg (r.den : Int))] 23) = W6 at *
  generalize W5.heap.size = p9 at *
  obtain ⟨⟨r1, r2, r3, r4⟩, r5, r6, r7, r8⟩ := P3
  go_wp2
  exact bodyPost_ret (v := .tuple #[ratV r, .int .i64 0]) (by simp [results, Tryz.results48, go_sem, r1, r2, r3, r4, ratV]) rfl ⟨rfl, below4s B3 _ (by omega) _ _ _ _⟩

set_option maxRecDepth 100000 in
theorem rcheck_any (na nb : Bool) (sa sb : ByteArray) (q : Rat) (c : Bool) (k : Nat) (w : World) (h1 : IsRat (.agg #[.bool na, .string sa, .bool nb, .string sb]) q k) (hc : sameR na sa nb sb (sg q.num) (mg q.num) (sg (q.den : Int)) (mg (q.den : Int)) = c) :
    Calls Tryz.prog 32 #[.agg #[.bool na, .string sa, .bool nb, .string sb]] w fun e w' => e = .returned (.int .i64 (if c then 0 else 1)) ∧ Below w.heap.size w w' := by
  have Hc := Lib.hid hc
  have H1 := Lib.hid h1
  clear hc h1
  have B0 := below1 w (.cells #[.bool na, .string sa, .bool nb, .string sb] 36)
  have S0 : RIn (w.alloc (.cells #[.bool na, .string sa, .bool nb, .string sb] 36)) w.heap.size na sa nb sb := RIn.new rfl
  go_enter Tryz.func32, Tryz.ntmps32
  go_upto_region 1 with fail
  generalize w.alloc (.cells #[.bool na, .string sa, .bool nb, .string sb] 36) = W0 at *
  have S1 : RIn W0.drew w.heap.size na sa nb sb := S0
  go_region_held3 (fun W => W.cell? ⟨w.heap.size, 0, none⟩ = some (.bool na) ∧ W.cell? ⟨w.heap.size, 1, none⟩ = some (.string sa) ∧ W.cell? ⟨w.heap.size, 2, none⟩ = some (.bool nb) ∧ W.cell? ⟨w.heap.size, 3, none⟩ = some (.string sb)) (first | exact S0 | exact S1 | exact RIn.keep S1 (by assumption) | go_keep)
    (first
      | (go_at_call 89; refine (rcanon_any _ q k _ H1.out).mono ?_; rintro e W1 ⟨rfl, b1⟩; unfold ratV))
  all_goals
    rw [Hc.out]
    cases c
    · go_wp2
      go_ret
      exact ⟨rfl, below_more B0.drew (Nat.le_refl _) b1⟩
    · go_wp2
      go_ret
      exact ⟨rfl, below_more B0.drew (Nat.le_refl _) b1⟩
end Go.Proofs.YtfcdekkoeeaolaaGreatDoor

namespace Go.Proofs.YtfcdekkoeeaolaaGreatDoor
open Go.RowKit

/-- What the run leads to: low a / b, high c / d, the last two convergents ln / ld and nn / nd. -/
inductive Sim : Int → Int → Int → Int → Int → Int → Int → Int → Int → Int → Prop
  | whole {a b c d ln ld nn nd : Int} (h : a % b = 0) : Sim a b c d ln ld nn nd (a / b * nn + ln) (a / b * nd + ld)
  | above {a b c d ln ld nn nd : Int} (h : a % b ≠ 0) (h2 : a / b ≠ c / d) : Sim a b c d ln ld nn nd ((a / b + 1) * nn + ln) ((a / b + 1) * nd + ld)
  | more {a b c d ln ld nn nd rn rd : Int} (h : a % b ≠ 0) (h2 : a / b = c / d) (k : Sim d (c % d) b (a % b) nn nd (a / b * nn + ln) (a / b * nd + ld) rn rd) : Sim a b c d ln ld nn nd rn rd

/-- What holds between two rounds. -/
def Inv (M a b c d ln ld nn nd : Int) : Prop :=
  (0 < a ∧ 0 < b ∧ 0 < c ∧ 0 < d) ∧ (0 ≤ ln ∧ 0 ≤ ld ∧ 0 ≤ nn ∧ 0 ≤ nd) ∧ a * d ≤ c * b ∧ (a ≤ M ∧ b ≤ M ∧ c ≤ M ∧ d ≤ M) ∧
  (nn * a + ln * b ≤ M ∧ nd * a + ld * b ≤ M) ∧ (nn * c + ln * d ≤ M ∧ nd * c + ld * d ≤ M)
theorem inv_start {M a b c d : Int} (h1 : 0 < a) (h2 : 0 < b) (h3 : 0 < c) (h4 : 0 < d) (h5 : a * d ≤ c * b) (m1 : a ≤ M) (m2 : b ≤ M) (m3 : c ≤ M) (m4 : d ≤ M) : Inv M a b c d 0 1 1 0 := by
  refine ⟨⟨h1, h2, h3, h4⟩, ⟨by omega, by omega, by omega, by omega⟩, h5, ⟨m1, m2, m3, m4⟩, ⟨?_, ?_⟩, ⟨?_, ?_⟩⟩ <;> simp <;> omega
theorem comb_le {p q a b M : Int} (hp : 0 ≤ p) (hq : 0 ≤ q) (ha : 0 < a) (hb : 0 < b) (h : p * a + q * b ≤ M) : p ≤ M ∧ q ≤ M := by
  have h1 : p * 1 ≤ p * a := Int.mul_le_mul_of_nonneg_left (by omega) hp
  have h2 : q * 1 ≤ q * b := Int.mul_le_mul_of_nonneg_left (by omega) hq
  have h3 : 0 ≤ p * a := Int.mul_nonneg hp (by omega)
  have h4 : 0 ≤ q * b := Int.mul_nonneg hq (by omega)
  omega
theorem Inv.le {M a b c d ln ld nn nd : Int} (h : Inv M a b c d ln ld nn nd) : ln ≤ M ∧ ld ≤ M ∧ nn ≤ M ∧ nd ≤ M := by
  obtain ⟨⟨h1, h2, _, _⟩, ⟨k1, k2, k3, k4⟩, _, _, ⟨c1, c2⟩, _⟩ := h
  have e1 := comb_le k3 k1 h1 h2 c1
  have e2 := comb_le k4 k2 h1 h2 c2
  exact ⟨e1.2, e2.2, e1.1, e2.1⟩
theorem quot_le {a b c d : Int} (hb : 0 < b) (hd : 0 < d) (h : a * d ≤ c * b) : a / b ≤ c / d := by
  rw [Int.le_ediv_iff_mul_le hd]
  have h1 : a / b * b ≤ a := Int.ediv_mul_le a (by omega)
  have h2 : a / b * b * d ≤ a * d := Int.mul_le_mul_of_nonneg_right h1 (by omega)
  have h3 : a / b * d * b ≤ c * b := by rw [Int.mul_right_comm]; omega
  exact Int.le_of_mul_le_mul_right h3 hb
theorem Inv.terms {M a b c d ln ld nn nd : Int} (h : Inv M a b c d ln ld nn nd) : 0 ≤ a / b ∧ a / b ≤ M ∧ 0 ≤ c / d ∧ c / d ≤ M ∧ 0 ≤ a % b ∧ a % b < b ∧ 0 ≤ c % d ∧ c % d < d ∧ a / b ≤ c / d := by
  obtain ⟨⟨h1, h2, h3, h4⟩, _, h5, ⟨m1, m2, m3, m4⟩, _⟩ := h
  have e1 : a / b ≤ a := Int.ediv_le_self _ (by omega)
  have e2 : c / d ≤ c := Int.ediv_le_self _ (by omega)
  exact ⟨Int.ediv_nonneg (by omega) (by omega), by omega, Int.ediv_nonneg (by omega) (by omega), by omega, Int.emod_nonneg _ (by omega), Int.emod_lt_of_pos _ h2, Int.emod_nonneg _ (by omega), Int.emod_lt_of_pos _ h4, quot_le h2 h4 h5⟩
theorem Inv.step {M a b c d ln ld nn nd : Int} (h : Inv M a b c d ln ld nn nd) (h0 : a % b ≠ 0) (he : a / b = c / d) : Inv M d (c % d) b (a % b) nn nd (a / b * nn + ln) (a / b * nd + ld) := by
  obtain ⟨t1, t2, t3, t4, t5, t6, t7, t8, t9⟩ := h.terms
  obtain ⟨⟨h1, h2, h3, h4⟩, ⟨k1, k2, k3, k4⟩, h5, ⟨m1, m2, m3, m4⟩, ⟨c1, c2⟩, ⟨c3, c4⟩⟩ := h
  have ea := Int.mul_ediv_add_emod a b
  have ec := Int.mul_ediv_add_emod c d
  rw [← he] at ec
  generalize a / b = t at *
  generalize a % b = r at *
  generalize c % d = s at *
  clear he
  subst ea
  subst ec
  have hrs : r * d ≤ s * b := by
    have e1 : (b * t + r) * d = b * t * d + r * d := Int.add_mul _ _ _
    have e2 : (d * t + s) * b = b * t * d + s * b := by rw [Int.add_mul, Int.mul_right_comm, Int.mul_comm d b, Int.mul_right_comm]
    omega
  have hs0 : 0 < s := by
    rcases Int.lt_or_le 0 s with h9 | h9
    · exact h9
    · exfalso
      have h10 : s = 0 := by omega
      rw [h10, Int.zero_mul] at hrs
      have h11 : 0 < r * d := Int.mul_pos (by omega) h4
      omega
  have n1 : 0 ≤ t * nn := Int.mul_nonneg t1 k3
  have n2 : 0 ≤ t * nd := Int.mul_nonneg t1 k4
  refine ⟨⟨h4, hs0, h2, by omega⟩, ⟨k3, k4, by omega, by omega⟩, ?_, ⟨m4, by omega, m2, by omega⟩, ⟨?_, ?_⟩, ⟨?_, ?_⟩⟩
  · rw [Int.mul_comm d r, Int.mul_comm b s]; exact hrs
  · have e : (t * nn + ln) * d + nn * s = nn * (d * t + s) + ln * d := by grind
    omega
  · have e : (t * nd + ld) * d + nd * s = nd * (d * t + s) + ld * d := by grind
    omega
  · have e : (t * nn + ln) * b + nn * r = nn * (b * t + r) + ln * b := by grind
    omega
  · have e : (t * nd + ld) * b + nd * r = nd * (b * t + r) + ld * b := by grind
    omega
theorem qD_pos {a b : Int} (h : 0 < b) : qD a b = a / b ∧ rD a b = a % b := by
  obtain ⟨s1, s2, s3⟩ := qD_spec (a := a) (b := b) (by omega)
  have e1 := Int.mul_ediv_add_emod a b
  have e2 := Int.emod_nonneg a (b := b) (by omega)
  have e3 := Int.emod_lt_of_pos a h
  exact div_one s1 (by rw [Int.mul_comm]; exact e1) ⟨s2, s3⟩ ⟨fun _ => by omega, fun _ => by omega⟩ (by omega)
end Go.Proofs.YtfcdekkoeeaolaaGreatDoor

namespace Go.Proofs.YtfcdekkoeeaolaaGreatDoor
open Go.RowKit Go.Shelf
attribute [local go_sem] Oper.semAt_some
set_option linter.unusedSimpArgs false
set_option linter.unusedVariables false

/-- A variable of the type api.Rat with these integers. -/
def RV (W : World) (p : Nat) (x y : Int) : Prop := RIn W p (sg x) (mg x) (sg y) (mg y) ∧ W.frozen? ⟨p, 0, none⟩ = false ∧ W.frozen? ⟨p, 1, none⟩ = false ∧ W.frozen? ⟨p, 2, none⟩ = false ∧ W.frozen? ⟨p, 3, none⟩ = false
theorem RV.keep {W W' : World} {p : Nat} {x y : Int} (h : RV W p x y) (hb : Below W.heap.size W W') : RV W' p x y :=
  ⟨h.1.keep hb, frozen_keep h.1.1 h.2.1 hb, frozen_keep h.1.2.1 h.2.2.1 hb, frozen_keep h.1.2.2.1 h.2.2.2.1 hb, frozen_keep h.1.2.2.2 h.2.2.2.2 hb⟩
theorem RV.put {W : World} {b l : Nat} {r : Loop} {x y : Int} (h : RV W b x y) (hl : W.heap[l]? = some (.loop r)) (o : Obj) : RV (W.putObj l o) b x y :=
  ⟨⟨cell_put hl o _ h.1.1, cell_put hl o _ h.1.2.1, cell_put hl o _ h.1.2.2.1, cell_put hl o _ h.1.2.2.2⟩, (frozen_put hl o _ h.1.1).trans h.2.1, (frozen_put hl o _ h.1.2.1).trans h.2.2.1, (frozen_put hl o _ h.1.2.2.1).trans h.2.2.2.1, (frozen_put hl o _ h.1.2.2.2).trans h.2.2.2.2⟩
theorem RV.new (W : World) (x y : Int) : RV (W.alloc (.cells #[.bool (sg x), .string (mg x), .bool (sg y), .string (mg y)] 36)) W.heap.size x y := by
  refine ⟨RIn.new rfl, ?_, ?_, ?_, ?_⟩ <;> simp [go_sem]

/-- Four cells of a block are stored. -/
def st4 (W : World) (p : Nat) (g1 : Bool) (s1 : ByteArray) (g2 : Bool) (s2 : ByteArray) : World := (((W.setCell ⟨p, 0, none⟩ (.bool g1)).setCell ⟨p, 1, none⟩ (.string s1)).setCell ⟨p, 2, none⟩ (.bool g2)).setCell ⟨p, 3, none⟩ (.string s2)
theorem st4_others (W : World) (p : Nat) (g1 g2 : Bool) (s1 s2 : ByteArray) : KeepsOthers W (st4 W p g1 s1 g2 s2) :=
  (((KeepsOthers.setCell W _ _).trans (KeepsOthers.setCell _ _ _)).trans (KeepsOthers.setCell _ _ _)).trans (KeepsOthers.setCell _ _ _)
theorem st4_frozen (W : World) (p : Nat) (g1 g2 : Bool) (s1 s2 : ByteArray) (q : Addr) : (st4 W p g1 s1 g2 s2).frozen? q = W.frozen? q := by
  unfold st4
  rw [World.frozen?_setCell, World.frozen?_setCell, World.frozen?_setCell, World.frozen?_setCell]
theorem st4_far {W : World} {p : Nat} {g1 g2 : Bool} {s1 s2 : ByteArray} {q : Addr} (h : q.block ≠ p) : (st4 W p g1 s1 g2 s2).cell? q = W.cell? q := by
  unfold st4
  rw [World.cell?_setCell_far _ _ _ _ (by exact fun e => h e.symm), World.cell?_setCell_far _ _ _ _ (by exact fun e => h e.symm), World.cell?_setCell_far _ _ _ _ (by exact fun e => h e.symm), World.cell?_setCell_far _ _ _ _ (by exact fun e => h e.symm)]
theorem st4_below {B : Nat} {W W1 : World} (h : Below B W W1) (p : Nat) (hp : B ≤ p) (g1 g2 : Bool) (s1 s2 : ByteArray) : Below B W (st4 W1 p g1 s1 g2 s2) := below4s h p hp _ _ _ _
theorem RV.st4 {W : World} {p : Nat} {x y : Int} (h : RV W p x y) (a b : Int) : RV (st4 W p (sg a) (mg a) (sg b) (mg b)) p a b :=
  ⟨RIn.made ⟨_, _, _, _, h.1.1, h.1.2.1, h.1.2.2.1, h.1.2.2.2⟩ _ _ _ _, (st4_frozen ..).trans h.2.1, (st4_frozen ..).trans h.2.2.1, (st4_frozen ..).trans h.2.2.2.1, (st4_frozen ..).trans h.2.2.2.2⟩
theorem RV.far {W : World} {p q : Nat} {x y : Int} (h : RV W p x y) (hne : p ≠ q) (g1 g2 : Bool) (s1 s2 : ByteArray) : RV (Go.Proofs.YtfcdekkoeeaolaaGreatDoor.st4 W q g1 s1 g2 s2) p x y :=
  ⟨⟨(st4_far (by exact hne)).trans h.1.1, (st4_far (by exact hne)).trans h.1.2.1, (st4_far (by exact hne)).trans h.1.2.2.1, (st4_far (by exact hne)).trans h.1.2.2.2⟩, (st4_frozen ..).trans h.2.1, (st4_frozen ..).trans h.2.2.1, (st4_frozen ..).trans h.2.2.2.1, (st4_frozen ..).trans h.2.2.2.2⟩
/-- What a round does: the last two convergents go on. -/
def StepDoes (B l D p x : Nat) (REC : Loop) (W W' : World) (nn nd a b : Int) : Prop :=
  W'.heap[l]? = some (.loop REC) ∧ W'.heap[D]? = some (.deferred (some [])) ∧ RV W' p nn nd ∧ RV W' x a b ∧ Below B W W' ∧
  (∀ q v, W.cell? q = some v → q.block ≠ p → q.block ≠ x → W'.cell? q = some v ∧ W'.frozen? q = W.frozen? q)
/-- A variable of the type api.Rat whose integers have these values. -/
def QV (W : World) (p : Nat) (a b : Int) (k : Nat) : Prop := ∃ g1 s1 g2 s2, RIn W p g1 s1 g2 s2 ∧ (W.frozen? ⟨p, 0, none⟩ = false ∧ W.frozen? ⟨p, 1, none⟩ = false ∧ W.frozen? ⟨p, 2, none⟩ = false ∧ W.frozen? ⟨p, 3, none⟩ = false) ∧ IsInt (.agg #[.bool g1, .string s1]) a k ∧ IsInt (.agg #[.bool g2, .string s2]) b k
/-- A variable of the type api.Rat with these four cells, which may be stored. -/
def FR (W : World) (p : Nat) (g1 : Bool) (s1 : ByteArray) (g2 : Bool) (s2 : ByteArray) : Prop := RIn W p g1 s1 g2 s2 ∧ W.frozen? ⟨p, 0, none⟩ = false ∧ W.frozen? ⟨p, 1, none⟩ = false ∧ W.frozen? ⟨p, 2, none⟩ = false ∧ W.frozen? ⟨p, 3, none⟩ = false
theorem FR.keep {W W' : World} {p : Nat} {g1 g2 : Bool} {s1 s2 : ByteArray} (h : FR W p g1 s1 g2 s2) (hb : Below W.heap.size W W') : FR W' p g1 s1 g2 s2 :=
  ⟨h.1.keep hb, frozen_keep h.1.1 h.2.1 hb, frozen_keep h.1.2.1 h.2.2.1 hb, frozen_keep h.1.2.2.1 h.2.2.2.1 hb, frozen_keep h.1.2.2.2 h.2.2.2.2 hb⟩
/-- What lies in memory in a round. -/
def Sd (l D p5 x bl bh : Nat) (REC : Loop) (g1 : Bool) (s1 : ByteArray) (g2 : Bool) (s2 : ByteArray) (g3 : Bool) (s3 : ByteArray) (g4 : Bool) (s4 : ByteArray) (ln ld nn nd : Int) (W : World) : Prop :=
  W.heap[l]? = some (.loop REC) ∧ W.heap[D]? = some (.deferred (some [])) ∧ RV W p5 ln ld ∧ RV W x nn nd ∧ FR W bl g1 s1 g2 s2 ∧ FR W bh g3 s3 g4 s4
theorem heap_keep {W W' : World} {l : Nat} {o : Obj} (h : W.heap[l]? = some o) (hb : Below W.heap.size W W') : W'.heap[l]? = some o := (hb.block _ (Array.getElem?_eq_some_iff.1 h).1).trans h
theorem Sd.keep {l D p5 x bl bh : Nat} {REC : Loop} {g1 g2 g3 g4 : Bool} {s1 s2 s3 s4 : ByteArray} {ln ld nn nd : Int} {W W' : World} (h : Sd l D p5 x bl bh REC g1 s1 g2 s2 g3 s3 g4 s4 ln ld nn nd W) (hb : Below W.heap.size W W') : Sd l D p5 x bl bh REC g1 s1 g2 s2 g3 s3 g4 s4 ln ld nn nd W' :=
  ⟨heap_keep h.1 hb, heap_keep h.2.1 hb, h.2.2.1.keep hb, h.2.2.2.1.keep hb, h.2.2.2.2.1.keep hb, h.2.2.2.2.2.keep hb⟩
/-- An integer in two cells. -/
def IC (W : World) (p : Nat) (z : Int) : Prop := W.cell? ⟨p, 0, none⟩ = some (.bool (sg z)) ∧ W.cell? ⟨p, 1, none⟩ = some (.string (mg z))
theorem IC.keep {W W' : World} {p : Nat} {z : Int} (h : IC W p z) (hb : Below W.heap.size W W') : IC W' p z := ⟨cell_keep h.1 hb, cell_keep h.2 hb⟩
theorem FR.st4 {W : World} {p : Nat} {g1 g2 : Bool} {s1 s2 : ByteArray} (h : FR W p g1 s1 g2 s2) (h1 h2 : Bool) (u1 u2 : ByteArray) : FR (st4 W p h1 u1 h2 u2) p h1 u1 h2 u2 :=
  ⟨RIn.made ⟨_, _, _, _, h.1.1, h.1.2.1, h.1.2.2.1, h.1.2.2.2⟩ _ _ _ _, (st4_frozen ..).trans h.2.1, (st4_frozen ..).trans h.2.2.1, (st4_frozen ..).trans h.2.2.2.1, (st4_frozen ..).trans h.2.2.2.2⟩
theorem FR.far {W : World} {p q : Nat} {g1 g2 : Bool} {s1 s2 : ByteArray} (h : FR W p g1 s1 g2 s2) (hne : p ≠ q) (h1 h2 : Bool) (u1 u2 : ByteArray) : FR (Go.Proofs.YtfcdekkoeeaolaaGreatDoor.st4 W q h1 u1 h2 u2) p g1 s1 g2 s2 :=
  ⟨⟨(st4_far (by exact hne)).trans h.1.1, (st4_far (by exact hne)).trans h.1.2.1, (st4_far (by exact hne)).trans h.1.2.2.1, (st4_far (by exact hne)).trans h.1.2.2.2⟩, (st4_frozen ..).trans h.2.1, (st4_frozen ..).trans h.2.2.1, (st4_frozen ..).trans h.2.2.2.1, (st4_frozen ..).trans h.2.2.2.2⟩
theorem FR.step {B l D p5 x bl : Nat} {REC : Loop} {W W' : World} {g1 g2 : Bool} {s1 s2 : ByteArray} {nn nd a b : Int} (h : FR W bl g1 s1 g2 s2) (hs : StepDoes B l D p5 x REC W W' nn nd a b) (n1 : bl ≠ p5) (n2 : bl ≠ x) : FR W' bl g1 s1 g2 s2 := by
  have k := hs.2.2.2.2.2
  have k1 := k _ _ h.1.1 n1 n2
  have k2 := k _ _ h.1.2.1 n1 n2
  have k3 := k _ _ h.1.2.2.1 n1 n2
  have k4 := k _ _ h.1.2.2.2 n1 n2
  exact ⟨⟨k1.1, k2.1, k3.1, k4.1⟩, k1.2.trans h.2.1, k2.2.trans h.2.2.1, k3.2.trans h.2.2.2.1, k4.2.trans h.2.2.2.2⟩
theorem IC.step {B l D p5 x p : Nat} {REC : Loop} {W W' : World} {z : Int} {nn nd a b : Int} (h : IC W p z) (hs : StepDoes B l D p5 x REC W W' nn nd a b) (n1 : p ≠ p5) (n2 : p ≠ x) : IC W' p z := by
  have k := hs.2.2.2.2.2
  exact ⟨(k _ _ h.1 n1 n2).1, (k _ _ h.2 n1 n2).1⟩
/-- What lies in memory between two rounds. -/
def Mid (B l D p5 x bl bh k : Nat) (M : Int) (REC : Loop) (W0 W : World) (a b c d ln ld nn nd : Int) : Prop :=
  W.heap[l]? = some (.loop REC) ∧ W.heap[D]? = some (.deferred (some [])) ∧ RV W p5 ln ld ∧ RV W x nn nd ∧ QV W bl a b k ∧ QV W bh c d k ∧ Inv M a b c d ln ld nn nd ∧ Below B W0 W
theorem nat_bd {z M : Int} {k : Nat} (h0 : 0 ≤ z) (h : z ≤ M) (hM : M.natAbs < 4294967296 ^ k) : z.natAbs < 4294967296 ^ k := by omega
theorem two_new (W : World) (t r : Int) {W2 : World} (hb : Below ((W.alloc (.cells #[.bool (sg t), .string (mg t)] 23)).alloc (.cells #[.bool (sg r), .string (mg r)] 23)).heap.size ((W.alloc (.cells #[.bool (sg t), .string (mg t)] 23)).alloc (.cells #[.bool (sg r), .string (mg r)] 23)) W2) :
    W2.cell? ⟨W.heap.size, 0, none⟩ = some (.bool (sg t)) ∧ W2.cell? ⟨W.heap.size, 1, none⟩ = some (.string (mg t)) ∧ W2.cell? ⟨W.heap.size + 1, 0, none⟩ = some (.bool (sg r)) ∧ W2.cell? ⟨W.heap.size + 1, 1, none⟩ = some (.string (mg r)) := by
  refine ⟨cell_keep (v := .bool (sg t)) ?_ hb, cell_keep (v := .string (mg t)) ?_ hb, cell_keep (v := .bool (sg r)) ?_ hb, cell_keep (v := .string (mg r)) ?_ hb⟩ <;> simp [go_sem]
/-- The integer whose sign and bytes two cells hold. -/
noncomputable def intAt (W : World) (p o : Nat) : Int := match W.cell? ⟨p, o, none⟩, W.cell? ⟨p, o + 1, none⟩ with
  | some (.bool g), some (.string s) => zv g s
  | _, _ => 0
theorem intAt_eq {W : World} {p o : Nat} {g : Bool} {s : ByteArray} {z : Int} {k : Nat} (h1 : W.cell? ⟨p, o, none⟩ = some (.bool g)) (h2 : W.cell? ⟨p, o + 1, none⟩ = some (.string s)) (h : IsInt (.agg #[.bool g, .string s]) z k) : intAt W p o = z := by
  obtain ⟨g', s', e, hz, _⟩ := h
  injection e with e
  simp only [Array.mk.injEq, List.cons.injEq, Value.bool.injEq, Value.string.injEq, and_true] at e
  obtain ⟨rfl, rfl⟩ := e
  unfold intAt
  rw [h1, h2]
  exact hz

set_option maxRecDepth 100000 in
set_option maxHeartbeats 6400000 in
theorem cterms_any (B l D p5 x bl bh k : Nat) (M : Int) (REC : Loop) (W0 : World) (P : Int → Int → Prop)
    (hY : ∀ W t ln ld nn nd, W.heap[l]? = some (.loop REC) → W.heap[D]? = some (.deferred (some [])) → RV W p5 ln ld → RV W x nn nd →
      IsInt (.agg #[.bool (sg t), .string (mg t)]) t k → IsInt (.agg #[.bool (sg ln), .string (mg ln)]) ln k → IsInt (.agg #[.bool (sg ld), .string (mg ld)]) ld k → IsInt (.agg #[.bool (sg nn), .string (mg nn)]) nn k → IsInt (.agg #[.bool (sg nd), .string (mg nd)]) nd k →
      YieldAt Fence.wide 6 Tryz.prog l #[.agg #[.bool (sg t), .string (mg t)]] W fun e W' => e = .returned (.bool true) ∧ StepDoes B l D p5 x REC W W' nn nd (t * nn + ln) (t * nd + ld))
    (e1 : p5 ≠ x) (e2 : bl ≠ bh) (e3 : bl ≠ p5) (e4 : bl ≠ x) (e5 : bh ≠ p5) (e6 : bh ≠ x) (f1 : B ≤ bl) (f2 : B ≤ bh) (f3 : B ≤ p5) (f4 : B ≤ x) (f5 : B ≤ W0.heap.size) (hM : M.natAbs < 4294967296 ^ k) (hk : k ≤ 1000000)
    (a b c d ln ld nn nd : Int) (W : World) (h0 : Mid B l D p5 x bl bh k M REC W0 W a b c d ln ld nn nd) (hP : ∀ rn rd, Sim a b c d ln ld nn nd rn rd → P rn rd) :
    CallsIn Fence.wide 7 Tryz.prog 158 #[.func (.yield l) #[] #[], .pointer (some ⟨bl, 0, none⟩), .pointer (some ⟨bh, 0, none⟩)] W fun e W' =>
      (∃ v, e = .returned v) ∧ W'.heap[l]? = some (.loop REC) ∧ W'.heap[D]? = some (.deferred (some [])) ∧ (∃ rn rd, P rn rd ∧ RV W' x rn rd) ∧ Below B W0 W' := by
  have HY := Lib.hid hY
  have HP := Lib.hid hP
  have HM := Lib.hid hM
  clear hY hP hM
  refine callsIn_of_wp Tryz.func158 rfl trivial ?_ rfl
  simp only [Tryz.ntmps158, List.size_toArray, List.length_cons, List.length_nil, Nat.reduceAdd, Nat.reduceSub, Array.replicate_succ, Array.replicate_zero, List.push_toArray, List.append_toArray, List.nil_append, List.cons_append]
  have hmx : Tryz.prog.follows .mixedOrders = true := by kernel_rfl
  gi_wp2
  gi_loopw [4] (fun _ wr => ∃ a b c d ln ld nn nd, Mid B l D p5 x bl bh k M REC W0 wr a b c d ln ld nn nd ∧ Hid (∀ rn rd, Sim a b c d ln ld nn nd rn rd → P rn rd)) (fun _ wr => (intAt wr bl 2 + intAt wr bh 2).toNat)
  case atStart => exact ⟨a, b, c, d, ln, ld, nn, nd, h0, HP⟩
  case round =>
    clear h0 HP
    obtain ⟨a, b, c, d, ln, ld, nn, nd, ⟨hl, hD, v5, v6, ⟨g1, s1, g2, s2, SL, FL, ia, ib⟩, ⟨g3, s3, g4, s4, SH, FH, ic, id'⟩, hinv, hB⟩, HP⟩ := hrel
    have Hmu := Lib.hid (show intAt wr bl 2 = b ∧ intAt wr bh 2 = d from ⟨intAt_eq SL.2.2.1 SL.2.2.2 ib, intAt_eq SH.2.2.1 SH.2.2.2 id'⟩)
    have Hinv := Lib.hid hinv
    have Hter := Lib.hid hinv.terms
    have Hle := Lib.hid hinv.le
    obtain ⟨t, Et⟩ : ∃ t, Hid (a / b = t) := ⟨_, Lib.hid rfl⟩
    obtain ⟨r, Er⟩ : ∃ t, Hid (a % b = t) := ⟨_, Lib.hid rfl⟩
    obtain ⟨u, Eu⟩ : ∃ t, Hid (c / d = t) := ⟨_, Lib.hid rfl⟩
    obtain ⟨v, Ev⟩ : ∃ t, Hid (c % d = t) := ⟨_, Lib.hid rfl⟩
    have Q1 := Lib.hid (show qD a b = t ∧ rD a b = r ∧ b ≠ 0 by have := hinv.1.2.1; exact ⟨(qD_pos this).1.trans Et.out, (qD_pos this).2.trans Er.out, by omega⟩)
    have Q2 := Lib.hid (show qD c d = u ∧ rD c d = v ∧ d ≠ 0 by have := hinv.1.2.2.2; exact ⟨(qD_pos this).1.trans Eu.out, (qD_pos this).2.trans Ev.out, by omega⟩)
    have Ia := Lib.hid ia
    have Ib := Lib.hid ib
    have Ic := Lib.hid ic
    have Idd := Lib.hid id'
    have Ht := Lib.hid (show 0 ≤ t ∧ t ≤ M ∧ 0 ≤ u ∧ u ≤ M ∧ 0 ≤ r ∧ r < b ∧ 0 ≤ v ∧ v < d ∧ t ≤ u by rw [← Et.out, ← Er.out, ← Eu.out, ← Ev.out]; exact hinv.terms)
    have Hb := Lib.hid (show b ≤ M ∧ d ≤ M from ⟨hinv.2.2.2.1.2.1, hinv.2.2.2.1.2.2.2⟩)
    have It := Lib.hid (isInt_mg (nat_bd Ht.out.1 Ht.out.2.1 HM.out) (show k ≤ 10000000 by omega))
    have Iu := Lib.hid (isInt_mg (nat_bd Ht.out.2.2.1 Ht.out.2.2.2.1 HM.out) (show k ≤ 10000000 by omega))
    have Ir := Lib.hid (isInt_mg (nat_bd Ht.out.2.2.2.2.1 (show r ≤ M by have h8 := Ht.out; have h9 := Hb.out; omega) HM.out) (show k ≤ 10000000 by omega))
    have Iv := Lib.hid (isInt_mg (nat_bd (z := v) (by have h8 := Ht.out; omega) (show v ≤ M by have h8 := Ht.out; have h9 := Hb.out; omega) HM.out) (show k ≤ 10000000 by omega))
    have Iln := Lib.hid (isInt_mg (nat_bd hinv.2.1.1 Hle.out.1 HM.out) (show k ≤ 10000000 by omega))
    have Ild := Lib.hid (isInt_mg (nat_bd hinv.2.1.2.1 Hle.out.2.1 HM.out) (show k ≤ 10000000 by omega))
    have Inn := Lib.hid (isInt_mg (nat_bd hinv.2.1.2.2.1 Hle.out.2.2.1 HM.out) (show k ≤ 10000000 by omega))
    have Ind := Lib.hid (isInt_mg (nat_bd hinv.2.1.2.2.2 Hle.out.2.2.2 HM.out) (show k ≤ 10000000 by omega))
    clear hinv ia ib ic id'
    have S0 : Sd l D p5 x bl bh REC g1 s1 g2 s2 g3 s3 g4 s4 ln ld nn nd wr := ⟨hl, hD, v5, v6, ⟨SL, FL⟩, ⟨SH, FH⟩⟩
    obtain ⟨q1, q2, q3, q4⟩ := id SL
    clear hl hD v5 v6 SL FL FH
    obtain ⟨Z, EZ⟩ : ∃ Z : Bool, Hid (decide (r = 0) = Z) := ⟨_, Lib.hid rfl⟩
    cases Z with
    | true =>
      gi_wp2_with (refine ⟨trivial, ?_⟩; first
        | (gi_at_call 16; (with_reducible refine (callsIn_wide.2 (ediv_eq Ia.out Ib.out Q1.out.2.2 Q1.out.1 Q1.out.2.1)).mono ?_); rintro e W1 ⟨rfl, b1⟩; have S1 := S0.keep b1; have SH1 := SH.keep b1; obtain ⟨h1, h2, h3, h4⟩ := id SH1; have m1 := SH1.lt; have B1 := below_more hB f5 b1; clear SH)
        | (gi_at_call 16; (with_reducible refine (callsIn_wide.2 (ediv_eq Ic.out Idd.out Q2.out.2.2 Q2.out.1 Q2.out.2.1)).mono ?_); rintro e W2 ⟨rfl, b2⟩; have c1 := two_new W1 t r b2; obtain ⟨c2, c3, c4, c5⟩ := id c1; have S2 := (S1.keep (below2 W1 _ _)).keep b2; have B2 := below_more (below_more B1 f5 (below2 W1 _ _)) f5 b2; have m2 := World.block_lt_of_cell? W2 _ c4; dsimp only at m2; have m3 : W1.heap.size < W2.heap.size := by omega)
        | (gi_at_call 88; (with_reducible refine (callsIn_wide.2 (isZero_any _ r k _ Ir.out)).mono ?_); rw [EZ.out]; rintro e W3 ⟨rfl, b3⟩
           have S3 := (S2.keep (below2 W2 (.cells #[.bool (sg u), .string (mg u)] 23) (.cells #[.bool (sg v), .string (mg v)] 23))).keep b3
           have B3 := below_more (below_more B2 f5 (below2 W2 (.cells #[.bool (sg u), .string (mg u)] 23) (.cells #[.bool (sg v), .string (mg v)] 23))) f5 b3
           have d2 := cell_keep (cell_keep c2 (below2 W2 (.cells #[.bool (sg u), .string (mg u)] 23) (.cells #[.bool (sg v), .string (mg v)] 23))) b3
           have d3 := cell_keep (cell_keep c3 (below2 W2 (.cells #[.bool (sg u), .string (mg u)] 23) (.cells #[.bool (sg v), .string (mg v)] 23))) b3
           obtain ⟨fn, tmps, assign, body, hrun, hR⟩ := HY.out W3 t ln ld nn nd S3.1 S3.2.1 S3.2.2.1 S3.2.2.2.1 It.out Iln.out Ild.out Inn.out Ind.out))
      refine hR.mono ?_
      rintro e W4 ⟨rfl, hst⟩
      have hsim : P (t * nn + ln) (t * nd + ld) := by
        have h1 := Sim.whole (c := c) (d := d) (ln := ln) (ld := ld) (nn := nn) (nd := nd) (show a % b = 0 by rw [Er.out]; exact of_decide_eq_true EZ.out)
        rw [Et.out] at h1
        exact HP.out _ _ h1
      have hfin := Lib.hid (show W4.heap[l]? = some (.loop REC) ∧ W4.heap[D]? = some (.deferred (some [])) ∧ (∃ rn rd, P rn rd ∧ RV W4 x rn rd) ∧ Below B W0 W4 from ⟨hst.1, hst.2.1, ⟨_, _, hsim, hst.2.2.2.1⟩, B3.trans hst.2.2.2.2.1⟩)
      clear hst S0 S1 S2 S3 b1 b2 b3 hR hrun
      gi_wp2
      exact bodyPost_ret (results_none rfl _ _ _) rfl ⟨⟨_, rfl⟩, hfin.out⟩
    | false =>
      obtain ⟨Z2, EZ2⟩ : ∃ Z2 : Bool, Hid (decide (t = u) = Z2) := ⟨_, Lib.hid rfl⟩
      cases Z2 with
      | true =>
        have En := Lib.hid (show cmpZ t u = 0 by have h := of_decide_eq_true EZ2.out; unfold cmpZ; rw [if_neg (by omega), if_neg (by omega)])
        gi_wp2_with (refine ⟨trivial, ?_⟩; first
          | (gi_at_call 16; (with_reducible refine (callsIn_wide.2 (ediv_eq Ia.out Ib.out Q1.out.2.2 Q1.out.1 Q1.out.2.1)).mono ?_); rintro e W1 ⟨rfl, b1⟩; have S1 := S0.keep b1; have SH1 := SH.keep b1; obtain ⟨h1, h2, h3, h4⟩ := id SH1; have m1 := SH1.lt; have B1 := below_more hB f5 b1; clear SH)
          | (gi_at_call 16; (with_reducible refine (callsIn_wide.2 (ediv_eq Ic.out Idd.out Q2.out.2.2 Q2.out.1 Q2.out.2.1)).mono ?_); rintro e W2 ⟨rfl, b2⟩; have c1 := two_new W1 t r b2; obtain ⟨c2, c3, c4, c5⟩ := id c1; have S2 := (S1.keep (below2 W1 _ _)).keep b2; have B2 := below_more (below_more B1 f5 (below2 W1 _ _)) f5 b2; have m2 := World.block_lt_of_cell? W2 _ c4; dsimp only at m2; have m3 : W1.heap.size < W2.heap.size := by omega)
          | (gi_at_call 88; (with_reducible refine (callsIn_wide.2 (isZero_any _ r k _ Ir.out)).mono ?_); rw [EZ.out]; rintro e W3 ⟨rfl, b3⟩
             have S3 := (S2.keep (below2 W2 (.cells #[.bool (sg u), .string (mg u)] 23) (.cells #[.bool (sg v), .string (mg v)] 23))).keep b3
             have B3 := below_more (below_more B2 f5 (below2 W2 (.cells #[.bool (sg u), .string (mg u)] 23) (.cells #[.bool (sg v), .string (mg v)] 23))) f5 b3
             have c6 := two_new W2 u v b3
             have T3 : IC W3 W1.heap.size t := (show IC W2 W1.heap.size t from ⟨c2, c3⟩).keep (below2 W2 (.cells #[.bool (sg u), .string (mg u)] 23) (.cells #[.bool (sg v), .string (mg v)] 23)) |>.keep b3
             have R3 : IC W3 (W1.heap.size + 1) r := (show IC W2 (W1.heap.size + 1) r from ⟨c4, c5⟩).keep (below2 W2 (.cells #[.bool (sg u), .string (mg u)] 23) (.cells #[.bool (sg v), .string (mg v)] 23)) |>.keep b3
             have V3 : IC W3 (W2.heap.size + 1) v := ⟨c6.2.2.1, c6.2.2.2⟩
             obtain ⟨d1, d2⟩ := id T3
             obtain ⟨d3, d4, _⟩ := id c6)
          | (gi_at_call 97; (with_reducible refine (callsIn_wide.2 (icmp_eq It.out Iu.out En.out)).mono ?_); rintro e W4 ⟨rfl, b4⟩
             have S4 := S3.keep b4
             have B4 := below_more B3 f5 b4
             have T4 := T3.keep b4
             have R4 := R3.keep b4
             have V4 := V3.keep b4
             have hm := Lib.hid (show W1.heap.size ≠ p5 ∧ W1.heap.size ≠ x ∧ W1.heap.size + 1 ≠ p5 ∧ W1.heap.size + 1 ≠ x ∧ W2.heap.size + 1 ≠ p5 ∧ W2.heap.size + 1 ≠ x ∧ bl ≠ W1.heap.size + 1 ∧ bl ≠ W2.heap.size + 1 ∧ bh ≠ W2.heap.size + 1 ∧ bh ≠ W1.heap.size + 1 from by
               have k1 := S1.2.2.1.1.lt
               have k2 := S1.2.2.2.1.1.lt
               have k3 := S1.2.2.2.2.1.1.lt
               refine ⟨?_, ?_, ?_, ?_, ?_, ?_, ?_, ?_, ?_, ?_⟩ <;> omega)
             clear S0 S1 S2 S3 b1 b2 b3 b4 T3 R3 V3 c1 c2 c3 c4 c5 c6 B1 B2 B3 hB d1 d2 d3 d4 q1 q2 q3 q4 h1 h2 h3 h4
             obtain ⟨p1, p2⟩ := id T4
             obtain ⟨fn, tmps, assign, body, hrun, hR⟩ := HY.out W4 t ln ld nn nd S4.1 S4.2.1 S4.2.2.1 S4.2.2.2.1 It.out Iln.out Ild.out Inn.out Ind.out))
        refine hR.mono ?_
        rintro e W5 ⟨rfl, hst⟩
        have T5 := T4.step hst hm.out.1 hm.out.2.1
        have R5 := R4.step hst hm.out.2.2.1 hm.out.2.2.2.1
        have V5 := V4.step hst hm.out.2.2.2.2.1 hm.out.2.2.2.2.2.1
        have L5 := S4.2.2.2.2.1.step hst e3 e4
        have H5 := S4.2.2.2.2.2.step hst e5 e6
        have B5 := B4.trans hst.2.2.2.2.1
        obtain ⟨x1, x2, x3, x4, _, _⟩ := hst
        clear S4 B4 T4 R4 V4 hR hrun p1 p2
        gi_wp2
        have SS : RIn W5.drew bl g1 s1 g2 s2 ∧ RIn W5.drew bh g3 s3 g4 s4 ∧ W5.drew.cell? ⟨W2.heap.size + 1, 0, none⟩ = some (.bool (sg v)) ∧ W5.drew.cell? ⟨W2.heap.size + 1, 1, none⟩ = some (.string (mg v)) ∧ W5.drew.cell? ⟨W1.heap.size + 1, 0, none⟩ = some (.bool (sg r)) ∧ W5.drew.cell? ⟨W1.heap.size + 1, 1, none⟩ = some (.string (mg r)) := ⟨L5.1, H5.1, V5.1, V5.2, R5.1, R5.2⟩
        have FFl : W5.drew.frozen? ⟨bl, 0, none⟩ = false ∧ W5.drew.frozen? ⟨bl, 1, none⟩ = false ∧ W5.drew.frozen? ⟨bl, 2, none⟩ = false ∧ W5.drew.frozen? ⟨bl, 3, none⟩ = false := L5.2
        have FFh : W5.drew.frozen? ⟨bh, 0, none⟩ = false ∧ W5.drew.frozen? ⟨bh, 1, none⟩ = false ∧ W5.drew.frozen? ⟨bh, 2, none⟩ = false ∧ W5.drew.frozen? ⟨bh, 3, none⟩ = false := H5.2
        have Hne := Lib.hid e2
        have e2' : bh ≠ bl := Ne.symm e2
        obtain ⟨⟨t9, t10, t11, t12⟩, ⟨t1, t2, t3, t4⟩, t5, t6, t7, t8⟩ := id SS
        obtain ⟨f6, f7, f8, f9⟩ := id FFl
        obtain ⟨f10, f11, f12, f13⟩ := id FFh
        refine wpIn_wide.2 (regionT (T := T2 8 9 (fun W => RIn W bl g1 s1 g2 s2) (fun W => RIn W bh g3 s3 g4 s4 ∧ W.cell? ⟨W2.heap.size + 1, 0, none⟩ = some (.bool (sg v)) ∧ W.cell? ⟨W2.heap.size + 1, 1, none⟩ = some (.string (mg v)) ∧ W.cell? ⟨W1.heap.size + 1, 0, none⟩ = some (.bool (sg r)) ∧ W.cell? ⟨W1.heap.size + 1, 1, none⟩ = some (.string (mg r)))) hmx ?_)
        have N1 : W5.drew.heap[l]? = some (.loop REC) := x1
        have N2 : W5.drew.heap[D]? = some (.deferred (some [])) := x2
        have N3 : RV W5.drew p5 nn nd := x3
        have N4 : RV W5.drew x (t * nn + ln) (t * nd + ld) := x4
        have N5 : FR W5.drew bl g1 s1 g2 s2 := L5
        have N6 : FR W5.drew bh g3 s3 g4 s4 := H5
        have N7 : Below B W0 W5.drew := B5.drew
        clear x1 x2 x3 x4 L5 H5 B5 T5 R5 V5
        generalize W5.drew = X at *
        refine take2 (i := 0) (oi := { dst := some 46, op := Op.fieldAddr 36 (Operand.tmp 2) 1, type := 0, pos := "simplest.go:57", after := #[], guard := none }) (v := ?_) rfl (by kernel_rfl) (by kernel_rfl) (by kernel_rfl) (by kernel_rfl) (by kernel_rfl) (by decide) (by decide) (fun _ _ _ h => h) (Or.inl ⟨by rfl, ?_⟩) (SS.1) (SS.2) ?_
        rotate_left
        · intro w hSw
          (try dsimp only at hSw)
          (try unfold RIn at hSw)
          go_simp
          all_goals with_reducible rfl
        (try simp only [Act.put, List.setIfInBounds_toArray, List.set_cons_zero, List.set_cons_succ])
        refine take2 (i := 1) (oi := { dst := some 47, op := Op.load 23 (Operand.tmp 46), type := 23, pos := "simplest.go:57", after := #[{ on := 0, ground := Ground.data }], guard := none }) (v := ?_) rfl (by kernel_rfl) (by kernel_rfl) (by kernel_rfl) (by kernel_rfl) (by kernel_rfl) (by decide) (by decide) (fun _ _ _ h => h) (Or.inl ⟨by rfl, ?_⟩) (SS.1) (SS.2) ?_
        rotate_left
        · intro w hSw
          (try dsimp only at hSw)
          (try unfold RIn at hSw)
          go_simp
          all_goals with_reducible rfl
        (try simp only [Act.put, List.setIfInBounds_toArray, List.set_cons_zero, List.set_cons_succ])
        refine take2 (i := 2) (oi := { dst := some 48, op := Op.load 23 (Operand.tmp 8), type := 23, pos := "simplest.go:57", after := #[], guard := none }) (v := ?_) rfl (by kernel_rfl) (by kernel_rfl) (by kernel_rfl) (by kernel_rfl) (by kernel_rfl) (by decide) (by decide) (fun _ _ _ h => h) (Or.inl ⟨by rfl, ?_⟩) (SS.1) (SS.2) ?_
        rotate_left
        · intro w hSw
          (try dsimp only at hSw)
          (try unfold RIn at hSw)
          go_simp
          all_goals with_reducible rfl
        (try simp only [Act.put, List.setIfInBounds_toArray, List.set_cons_zero, List.set_cons_succ])
        refine take2 (i := 3) (oi := { dst := some 49, op := Op.build 36 #[(0, Operand.tmp 47), (1, Operand.tmp 48)], type := 36, pos := "simplest.go:57", after := #[{ on := 1, ground := Ground.data }, { on := 2, ground := Ground.data }], guard := none }) (v := ?_) rfl (by kernel_rfl) (by kernel_rfl) (by kernel_rfl) (by kernel_rfl) (by kernel_rfl) (by decide) (by decide) (fun _ _ _ h => h) (Or.inl ⟨by rfl, ?_⟩) (SS.1) (SS.2) ?_
        rotate_left
        · intro w hSw
          (try dsimp only at hSw)
          (try unfold RIn at hSw)
          go_simp
          all_goals with_reducible rfl
        (try simp only [Act.put, List.setIfInBounds_toArray, List.set_cons_zero, List.set_cons_succ])
        refine take1 (i := 4) (oi := { dst := some 50, op := Op.fieldAddr 36 (Operand.tmp 1) 1, type := 0, pos := "simplest.go:57", after := #[], guard := none }) (v := ?_) rfl (by kernel_rfl) (by kernel_rfl) (by kernel_rfl) (by kernel_rfl) (by kernel_rfl) (by decide) (by decide) (fun _ _ _ h => h) (Or.inl ⟨by rfl, ?_⟩) (SS.1) (SS.2) ?_
        rotate_left
        · intro w hSw
          (try dsimp only at hSw)
          (try unfold RIn at hSw)
          go_simp
          all_goals with_reducible rfl
        (try simp only [Act.put, List.setIfInBounds_toArray, List.set_cons_zero, List.set_cons_succ])
        refine take1 (i := 5) (oi := { dst := some 51, op := Op.load 23 (Operand.tmp 50), type := 23, pos := "simplest.go:57", after := #[{ on := 4, ground := Ground.data }], guard := none }) (v := ?_) rfl (by kernel_rfl) (by kernel_rfl) (by kernel_rfl) (by kernel_rfl) (by kernel_rfl) (by decide) (by decide) (fun _ _ _ h => h) (Or.inl ⟨by rfl, ?_⟩) (SS.1) (SS.2) ?_
        rotate_left
        · intro w hSw
          (try dsimp only at hSw)
          (try unfold RIn at hSw)
          go_simp
          all_goals with_reducible rfl
        (try simp only [Act.put, List.setIfInBounds_toArray, List.set_cons_zero, List.set_cons_succ])
        refine take2 (i := 6) (oi := { dst := some 52, op := Op.load 23 (Operand.tmp 5), type := 23, pos := "simplest.go:57", after := #[], guard := none }) (v := ?_) rfl (by kernel_rfl) (by kernel_rfl) (by kernel_rfl) (by kernel_rfl) (by kernel_rfl) (by decide) (by decide) (fun _ _ _ h => h) (Or.inl ⟨by rfl, ?_⟩) (SS.1) (SS.2) ?_
        rotate_left
        · intro w hSw
          (try dsimp only at hSw)
          (try unfold RIn at hSw)
          go_simp
          all_goals with_reducible rfl
        (try simp only [Act.put, List.setIfInBounds_toArray, List.set_cons_zero, List.set_cons_succ])
        refine take2 (i := 7) (oi := { dst := some 53, op := Op.build 36 #[(0, Operand.tmp 51), (1, Operand.tmp 52)], type := 36, pos := "simplest.go:57", after := #[{ on := 5, ground := Ground.data }, { on := 6, ground := Ground.data }], guard := none }) (v := ?_) rfl (by kernel_rfl) (by kernel_rfl) (by kernel_rfl) (by kernel_rfl) (by kernel_rfl) (by decide) (by decide) (fun _ _ _ h => h) (Or.inl ⟨by rfl, ?_⟩) (SS.1) (SS.2) ?_
        rotate_left
        · intro w hSw
          (try dsimp only at hSw)
          (try unfold RIn at hSw)
          go_simp
          all_goals with_reducible rfl
        (try simp only [Act.put, List.setIfInBounds_toArray, List.set_cons_zero, List.set_cons_succ])
        refine stepT (i := 8) (o := { dst := none, op := Op.store 36 (Operand.tmp 1) (Operand.tmp 49), type := 0, pos := "simplest.go:57", after := #[{ on := 3, ground := Ground.data }, { on := 0, ground := Ground.phase }, { on := 1, ground := Ground.phase }, { on := 2, ground := Ground.phase }, { on := 3, ground := Ground.phase }, { on := 4, ground := Ground.phase }, { on := 5, ground := Ground.phase }, { on := 6, ground := Ground.textOnly Departure.lateStores }, { on := 7, ground := Ground.textOnly Departure.lateStoresUnsure }], guard := none }) (by kernel_rfl) rfl (fun K hK => ?_)
        go_simp
        refine hK.out _ _ ⟨fun h => absurd h (by decide), fun _ => ⟨⟨(st4_far (g1 := g4) (s1 := s4) (g2 := sg v) (s2 := mg v) (by exact e2')).trans t1, (st4_far (g1 := g4) (s1 := s4) (g2 := sg v) (s2 := mg v) (by exact e2')).trans t2, (st4_far (g1 := g4) (s1 := s4) (g2 := sg v) (s2 := mg v) (by exact e2')).trans t3, (st4_far (g1 := g4) (s1 := s4) (g2 := sg v) (s2 := mg v) (by exact e2')).trans t4⟩, (st4_far (g1 := g4) (s1 := s4) (g2 := sg v) (s2 := mg v) (by exact Ne.symm hm.out.2.2.2.2.2.2.2.1)).trans t5, (st4_far (g1 := g4) (s1 := s4) (g2 := sg v) (s2 := mg v) (by exact Ne.symm hm.out.2.2.2.2.2.2.2.1)).trans t6, (st4_far (g1 := g4) (s1 := s4) (g2 := sg v) (s2 := mg v) (by exact Ne.symm hm.out.2.2.2.2.2.2.1)).trans t7, (st4_far (g1 := g4) (s1 := s4) (g2 := sg v) (s2 := mg v) (by exact Ne.symm hm.out.2.2.2.2.2.2.1)).trans t8⟩⟩ ?_
        clear hK K
        (try simp only [Act.put, List.setIfInBounds_toArray, List.set_cons_zero, List.set_cons_succ])
        refine stepT (i := 9) (o := { dst := none, op := Op.store 36 (Operand.tmp 2) (Operand.tmp 53), type := 0, pos := "simplest.go:57", after := #[{ on := 7, ground := Ground.data }, { on := 8, ground := Ground.chain }, { on := 0, ground := Ground.phase }, { on := 1, ground := Ground.phase }, { on := 2, ground := Ground.phase }, { on := 3, ground := Ground.phase }, { on := 4, ground := Ground.phase }, { on := 5, ground := Ground.phase }, { on := 6, ground := Ground.phase }, { on := 7, ground := Ground.phase }, { on := 8, ground := Ground.phase }], guard := none }) (by kernel_rfl) rfl (fun K hK => ?_)
        go_simp
        refine hK.out _ _ ⟨fun h => absurd h (by decide), fun h => absurd h (by decide)⟩ ?_
        clear hK K
        (try simp only [Act.put, List.setIfInBounds_toArray, List.set_cons_zero, List.set_cons_succ])
        refine doneT (by kernel_rfl) ?_ _
        have hsx := (st4_others X bl g4 (sg v) s4 (mg v)).trans (st4_others _ bh g2 (sg r) s2 (mg r))
        have M3 := (show FR X p5 (sg nn) (mg nn) (sg nd) (mg nd) from N3).far (Ne.symm e3) g4 (sg v) s4 (mg v) |>.far (Ne.symm e5) g2 (sg r) s2 (mg r)
        have M4 := (show FR X x (sg (t * nn + ln)) (mg (t * nn + ln)) (sg (t * nd + ld)) (mg (t * nd + ld)) from N4).far (Ne.symm e4) g4 (sg v) s4 (mg v) |>.far (Ne.symm e6) g2 (sg r) s2 (mg r)
        have M5 := (N5.st4 g4 (sg v) s4 (mg v)).far e2 g2 (sg r) s2 (mg r)
        have M6 := (N6.far e2' g4 (sg v) s4 (mg v)).st4 g2 (sg r) s2 (mg r)
        have M7 := st4_below (st4_below N7 bl f1 g4 (sg v) s4 (mg v)) bh f2 g2 (sg r) s2 (mg r)
        have hr0 : r ≠ 0 := of_decide_eq_false EZ.out
        have htu : t = u := of_decide_eq_true EZ2.out
        have hI := Hinv.out.step (by rw [Er.out]; exact hr0) (by rw [Et.out, Eu.out]; exact htu)
        rw [Et.out, Er.out, Ev.out] at hI
        have hP' : ∀ rn rd, Sim d v b r nn nd (t * nn + ln) (t * nd + ld) rn rd → P rn rd := fun rn rd hs => HP.out rn rd (Sim.more (by rw [Er.out]; exact hr0) (by rw [Et.out, Eu.out]; exact htu) (by rw [Et.out, Er.out, Ev.out]; exact hs))
        gi_wp2
        refine ⟨⟨d, v, b, r, nn, nd, t * nn + ln, t * nd + ld, ⟨hsx.same l _ N1 rfl, hsx.same D _ N2 rfl, M3, M4, ⟨g4, s4, sg v, mg v, M5.1, M5.2, Idd.out, Iv.out⟩, ⟨g2, s2, sg r, mg r, M6.1, M6.2, Ib.out, Ir.out⟩, hI, M7⟩, Lib.hid hP'⟩, ?_⟩
        have q7 := intAt_eq M5.1.2.2.1 M5.1.2.2.2 Iv.out
        have q8 := intAt_eq M6.1.2.2.1 M6.1.2.2.2 Ir.out
        have q9 := Hmu.out
        have h8 := Ht.out
        show (intAt (st4 (st4 X bl g4 s4 (sg v) (mg v)) bh g2 s2 (sg r) (mg r)) bl 2 + intAt (st4 (st4 X bl g4 s4 (sg v) (mg v)) bh g2 s2 (sg r) (mg r)) bh 2).toNat < _
        rw [q7, q8, q9.1, q9.2]
        omega
      | false =>
        have En := Lib.hid (show cmpZ t u = -1 by have h := of_decide_eq_false EZ2.out; have h8 := Ht.out; unfold cmpZ; rw [if_pos (by omega)])
        gi_wp2_with (refine ⟨trivial, ?_⟩; first
          | (gi_at_call 16; (with_reducible refine (callsIn_wide.2 (ediv_eq Ia.out Ib.out Q1.out.2.2 Q1.out.1 Q1.out.2.1)).mono ?_); rintro e W1 ⟨rfl, b1⟩; have S1 := S0.keep b1; have SH1 := SH.keep b1; obtain ⟨h1, h2, h3, h4⟩ := id SH1; have m1 := SH1.lt; have B1 := below_more hB f5 b1; clear SH)
          | (gi_at_call 16; (with_reducible refine (callsIn_wide.2 (ediv_eq Ic.out Idd.out Q2.out.2.2 Q2.out.1 Q2.out.2.1)).mono ?_); rintro e W2 ⟨rfl, b2⟩; have c1 := two_new W1 t r b2; obtain ⟨c2, c3, c4, c5⟩ := id c1; have S2 := (S1.keep (below2 W1 _ _)).keep b2; have B2 := below_more (below_more B1 f5 (below2 W1 _ _)) f5 b2; have m2 := World.block_lt_of_cell? W2 _ c4; dsimp only at m2; have m3 : W1.heap.size < W2.heap.size := by omega)
          | (gi_at_call 88; (with_reducible refine (callsIn_wide.2 (isZero_any _ r k _ Ir.out)).mono ?_); rw [EZ.out]; rintro e W3 ⟨rfl, b3⟩
             have S3 := (S2.keep (below2 W2 (.cells #[.bool (sg u), .string (mg u)] 23) (.cells #[.bool (sg v), .string (mg v)] 23))).keep b3
             have B3 := below_more (below_more B2 f5 (below2 W2 (.cells #[.bool (sg u), .string (mg u)] 23) (.cells #[.bool (sg v), .string (mg v)] 23))) f5 b3
             have c6 := two_new W2 u v b3
             have T3 : IC W3 W1.heap.size t := (show IC W2 W1.heap.size t from ⟨c2, c3⟩).keep (below2 W2 (.cells #[.bool (sg u), .string (mg u)] 23) (.cells #[.bool (sg v), .string (mg v)] 23)) |>.keep b3
             have R3 : IC W3 (W1.heap.size + 1) r := (show IC W2 (W1.heap.size + 1) r from ⟨c4, c5⟩).keep (below2 W2 (.cells #[.bool (sg u), .string (mg u)] 23) (.cells #[.bool (sg v), .string (mg v)] 23)) |>.keep b3
             have V3 : IC W3 (W2.heap.size + 1) v := ⟨c6.2.2.1, c6.2.2.2⟩
             obtain ⟨d1, d2⟩ := id T3
             obtain ⟨d3, d4, _⟩ := id c6)
          | (gi_at_call 97; (with_reducible refine (callsIn_wide.2 (icmp_eq It.out Iu.out En.out)).mono ?_); rintro e W4 ⟨rfl, b4⟩
             have S4 := S3.keep b4
             have B4 := below_more B3 f5 b4
             have T4 := T3.keep b4
             have R4 := R3.keep b4
             have V4 := V3.keep b4
             have hm := Lib.hid (show W1.heap.size ≠ p5 ∧ W1.heap.size ≠ x ∧ W1.heap.size + 1 ≠ p5 ∧ W1.heap.size + 1 ≠ x ∧ W2.heap.size + 1 ≠ p5 ∧ W2.heap.size + 1 ≠ x ∧ bl ≠ W1.heap.size + 1 ∧ bl ≠ W2.heap.size + 1 ∧ bh ≠ W2.heap.size + 1 ∧ bh ≠ W1.heap.size + 1 from by
               have k1 := S1.2.2.1.1.lt
               have k2 := S1.2.2.2.1.1.lt
               have k3 := S1.2.2.2.2.1.1.lt
               refine ⟨?_, ?_, ?_, ?_, ?_, ?_, ?_, ?_, ?_, ?_⟩ <;> omega)
             clear S0 S1 S2 S3 b1 b2 b3 b4 T3 R3 V3 c1 c2 c3 c4 c5 c6 B1 B2 B3 hB d1 d2 d3 d4 q1 q2 q3 q4 h1 h2 h3 h4
             obtain ⟨p1, p2⟩ := id T4))
        gi_region_with_o (first
          | (refine ⟨trivial, ?_⟩; gi_at_call 57; (with_reducible refine (callsIn_wide.2 (iof_any 1 _ (by omega) (by omega))).mono ?_); rintro e W5 ⟨rfl, b5⟩; have T5 := (show IC W4.drew W1.heap.size t from T4).keep b5; obtain ⟨r1, r2⟩ := id T5)
          | (refine ⟨trivial, ?_⟩; gi_at_call 9; (with_reducible refine (callsIn_wide.2 (iadd_any _ _ t 1 k 1 _ It.out (isInt_mg (by decide) (by omega)))).mono ?_); rintro e W6 ⟨rfl, b6⟩
             have S6 := ((show Sd l D p5 x bl bh REC g1 s1 g2 s2 g3 s3 g4 s4 ln ld nn nd W4.drew from S4).keep b5).keep b6
             have B6 := below_more (below_more B4.drew f5 b5) f5 b6
             have It1 := isInt_mg (z := t + 1) (nat_bd (by have h8 := Ht.out; omega) (show t + 1 ≤ M by have h8 := Ht.out; have h9 := of_decide_eq_false EZ2.out; omega) HM.out) (show k ≤ 10000000 by omega)
             obtain ⟨fn, tmps, assign, body, hrun, hR⟩ := HY.out W6 (t + 1) ln ld nn nd S6.1 S6.2.1 S6.2.2.1 S6.2.2.2.1 It1 Iln.out Ild.out Inn.out Ind.out)
          | (refine hR.mono ?_; rintro e W7 ⟨rfl, hst⟩))
        all_goals
          have hsim : P ((t + 1) * nn + ln) ((t + 1) * nd + ld) := by
            have h1 := Sim.above (c := c) (d := d) (ln := ln) (ld := ld) (nn := nn) (nd := nd) (show a % b ≠ 0 by rw [Er.out]; exact of_decide_eq_false EZ.out) (show a / b ≠ c / d by rw [Et.out, Eu.out]; exact of_decide_eq_false EZ2.out)
            rw [Et.out] at h1
            exact HP.out _ _ h1
          have hfin := Lib.hid (show W7.heap[l]? = some (.loop REC) ∧ W7.heap[D]? = some (.deferred (some [])) ∧ (∃ rn rd, P rn rd ∧ RV W7 x rn rd) ∧ Below B W0 W7 from ⟨hst.1, hst.2.1, ⟨_, _, hsim, hst.2.2.2.1⟩, B6.trans hst.2.2.2.2.1⟩)
          clear hst S4 S6 b5 b6 hR hrun T5 T4 R4 V4 B4 B6 It1
          gi_wp2
          exact bodyPost_ret (results_none rfl _ _ _) rfl ⟨⟨_, rfl⟩, hfin.out⟩
end Go.Proofs.YtfcdekkoeeaolaaGreatDoor
