/- What rational.Add, Sub, Mul, Quo, Ratio, Neg and Floor return. Condition: the integers have at most 10^6 digits to the base 2^32. Slices of integers in memory: rows of two cells an integer, those of one's own and those that came in. No condition. What polynomial.Degree, coefficient, leading, isNegative, isLarge and blank return. Condition: at most 10^6 coefficients, of at most 10^7 digits to the base 2^32. -/
import Derived.Test.YtgcogpfmhmmgdaaGreatDoorQ28
import Derived.Test.YtgcogpfmhmmgdaaGreatDoorQ29
import Derived.Test.YtgcogpfmhmmgdaaGreatDoorQ21
import Derived.Test.YtgcogpfmhmmgdaaGreatDoorQ24
import Derived.Laws.MakeOwn
import Derived.Deep.OwnRows
import Derived.OwnWalk
import Derived.Deep.DeepCutAuto
import Derived.Test.YtgcogpfmhmmgdaaGreatDoorQ09

namespace Go.Proofs.YtgcogpfmhmmgdaaGreatDoor
open Go.RowKit
set_option linter.unusedSimpArgs false

set_option maxRecDepth 100000 in
theorem radd_any (v1 v2 : Value) (p q r : Rat) (k : Nat) (w : World) (h1 : IsRat v1 p k) (h2 : IsRat v2 q k) (hk : k ≤ 1000000) (hr : p + q = r) :
    Calls Tryz.prog 24 #[v1, v2] w (RatOut w r) := by
  have Hr := Lib.hid hr
  have H1 := Lib.hid h1
  have H2 := Lib.hid h2
  clear hr
  obtain ⟨na, sa, nb, sb, -, -, rfl, -⟩ := h1
  obtain ⟨nc, sc, nd, sd, -, -, rfl, -⟩ := h2
  have P0 := ResRat.new ((w.alloc (.cells #[.bool na, .string sa, .bool nb, .string sb] 33)).alloc (.cells #[.bool nc, .string sc, .bool nd, .string sd] 33))
  rw [World.size_alloc, World.size_alloc] at P0
  have B0 := below3 w (.cells #[.bool na, .string sa, .bool nb, .string sb] 33) (.cells #[.bool nc, .string sc, .bool nd, .string sd] 33) (.cells #[.bool false, .string ⟨#[]⟩, .bool false, .string ⟨#[]⟩] 33)
  go_enter Tryz.func24, Tryz.ntmps24
  go_wp2_with fail
  refine (app0_any _ _ p q k _ H1.out H2.out hk).mono ?_
  rw [Hr.out]
  rintro e W1 ⟨rfl, b1⟩
  have hbl := below1 W1 (.cells #[.bool (sg (r).num), .string (mg (r).num), .bool (sg ((r).den : Int)), .string (mg ((r).den : Int))] 33)
  have P1 := (P0.keep b1).keep hbl
  have S1 : RIn (W1.alloc (.cells #[.bool (sg (r).num), .string (mg (r).num), .bool (sg ((r).den : Int)), .string (mg ((r).den : Int))] 33)) W1.heap.size (sg r.num) (mg r.num) (sg (r.den : Int)) (mg (r.den : Int)) := RIn.new rfl
  have B1 := below_more (below_more B0 (Nat.le_refl _) b1) (Nat.le_refl _) hbl
  clear P0 B0 b1 hbl
  unfold ratV
  go_upto_region 2 with fail
  generalize W1.alloc (.cells #[.bool (sg (r).num), .string (mg (r).num), .bool (sg ((r).den : Int)), .string (mg ((r).den : Int))] 33) = W2 at *
  generalize W1.heap.size = p5 at *
  obtain ⟨⟨r1, r2, r3, r4⟩, r5, r6, r7, r8⟩ := P1
  obtain ⟨t1, t2, t3, t4⟩ := S1
  go_wp2
  exact bodyPost_ret (v := ratV r) (by simp [results, Tryz.results24, go_sem, r1, r2, r3, r4, ratV]) rfl ⟨rfl, below4s B1 _ (by omega) _ _ _ _⟩
set_option maxRecDepth 100000 in
theorem rmul_any (v1 v2 : Value) (p q r : Rat) (k : Nat) (w : World) (h1 : IsRat v1 p k) (h2 : IsRat v2 q k) (hk : k ≤ 1000000) (hr : p * q = r) :
    Calls Tryz.prog 25 #[v1, v2] w (RatOut w r) := by
  have Hr := Lib.hid hr
  have H1 := Lib.hid h1
  have H2 := Lib.hid h2
  clear hr
  obtain ⟨na, sa, nb, sb, -, -, rfl, -⟩ := h1
  obtain ⟨nc, sc, nd, sd, -, -, rfl, -⟩ := h2
  have P0 := ResRat.new ((w.alloc (.cells #[.bool na, .string sa, .bool nb, .string sb] 33)).alloc (.cells #[.bool nc, .string sc, .bool nd, .string sd] 33))
  rw [World.size_alloc, World.size_alloc] at P0
  have B0 := below3 w (.cells #[.bool na, .string sa, .bool nb, .string sb] 33) (.cells #[.bool nc, .string sc, .bool nd, .string sd] 33) (.cells #[.bool false, .string ⟨#[]⟩, .bool false, .string ⟨#[]⟩] 33)
  go_enter Tryz.func25, Tryz.ntmps25
  go_wp2_with fail
  refine (app2_any _ _ p q k _ H1.out H2.out hk).mono ?_
  rw [Hr.out]
  rintro e W1 ⟨rfl, b1⟩
  have hbl := below1 W1 (.cells #[.bool (sg (r).num), .string (mg (r).num), .bool (sg ((r).den : Int)), .string (mg ((r).den : Int))] 33)
  have P1 := (P0.keep b1).keep hbl
  have S1 : RIn (W1.alloc (.cells #[.bool (sg (r).num), .string (mg (r).num), .bool (sg ((r).den : Int)), .string (mg ((r).den : Int))] 33)) W1.heap.size (sg r.num) (mg r.num) (sg (r.den : Int)) (mg (r.den : Int)) := RIn.new rfl
  have B1 := below_more (below_more B0 (Nat.le_refl _) b1) (Nat.le_refl _) hbl
  clear P0 B0 b1 hbl
  unfold ratV
  go_upto_region 2 with fail
  generalize W1.alloc (.cells #[.bool (sg (r).num), .string (mg (r).num), .bool (sg ((r).den : Int)), .string (mg ((r).den : Int))] 33) = W2 at *
  generalize W1.heap.size = p5 at *
  obtain ⟨⟨r1, r2, r3, r4⟩, r5, r6, r7, r8⟩ := P1
  obtain ⟨t1, t2, t3, t4⟩ := S1
  go_wp2
  exact bodyPost_ret (v := ratV r) (by simp [results, Tryz.results25, go_sem, r1, r2, r3, r4, ratV]) rfl ⟨rfl, below4s B1 _ (by omega) _ _ _ _⟩


end Go.Proofs.YtgcogpfmhmmgdaaGreatDoor

namespace Go.Proofs.YtgcogpfmhmmgdaaGreatDoor
open Go.RowKit
set_option linter.unusedSimpArgs false
set_option linter.unusedVariables false

/-- Two cells an integer. -/
def pcells (g : Nat → Bool) (s : Nat → ByteArray) (j : Nat) : Value := if j % 2 = 0 then .bool (g (j / 2)) else .string (s (j / 2))
theorem pcells0 (g : Nat → Bool) (s : Nat → ByteArray) (i : Nat) : pcells g s (i * 2) = .bool (g i) := by
  unfold pcells
  rw [if_pos (by omega), show i * 2 / 2 = i by omega]
theorem pcells1 (g : Nat → Bool) (s : Nat → ByteArray) (i : Nat) : pcells g s (i * 2 + 1) = .string (s i) := by
  unfold pcells
  rw [if_neg (by omega), show (i * 2 + 1) / 2 = i by omega]
/-- A row of one's own. -/
def PRow (W : World) (b n : Nat) (g : Nat → Bool) (s : Nat → ByteArray) : Prop := W.rowIs b 27 (n * 2) (pcells g s)
def upd2 {α : Type} (f : Nat → α) (i : Nat) (x : α) : Nat → α := fun j => if j = i then x else f j
section
variable {W W1 : World} {b n : Nat} {g : Nat → Bool} {s : Nat → ByteArray}
theorem PRow.lt (h : PRow W b n g s) : b < W.heap.size := World.rowIs.lt h
theorem PRow.keep (h : PRow W b n g s) (hb : Below W.heap.size W W1) : PRow W1 b n g s := World.rowIs.of_block h (hb.block b h.lt)
theorem PRow.cell (h : PRow W b n g s) {i : Nat} (hi : i < n) : W.cell? ⟨b, i * 2, none⟩ = some (.bool (g i)) ∧ W.cell? ⟨b, i * 2 + 1, none⟩ = some (.string (s i)) ∧ W.frozen? ⟨b, i * 2, none⟩ = false ∧ W.frozen? ⟨b, i * 2 + 1, none⟩ = false :=
  ⟨by rw [World.rowIs.cell h (i := i * 2) (by omega), pcells0], by rw [World.rowIs.cell h (i := i * 2 + 1) (by omega), pcells1], World.rowIs.frozen h _, World.rowIs.frozen h _⟩
theorem PRow.congr {g' : Nat → Bool} {s' : Nat → ByteArray} (h : PRow W b n g s) (e : ∀ i, i < n → g i = g' i ∧ s i = s' i) : PRow W b n g' s' :=
  World.rowIs.congr h fun j hj => by
    unfold pcells
    split
    · rw [(e _ (by omega)).1]
    · rw [(e _ (by omega)).2]
theorem PRow.set (h : PRow W b n g s) (i : Nat) (g' : Bool) (s' : ByteArray) : PRow ((W.setCell ⟨b, i * 2, none⟩ (.bool g')).setCell ⟨b, i * 2 + 1, none⟩ (.string s')) b n (upd2 g i g') (upd2 s i s') :=
  World.rowIs.congr (World.rowIs.set (World.rowIs.set h (i * 2) (.bool g')) (i * 2 + 1) (.string s')) fun j hj => by
    unfold pcells upd2
    by_cases h1 : j = i * 2 + 1
    · subst h1
      rw [if_pos rfl, if_neg (by omega), if_pos (by omega)]
    · rw [if_neg h1]
      by_cases h2 : j = i * 2
      · subst h2
        rw [if_pos rfl, if_pos (by omega), if_pos (by omega)]
      · rw [if_neg h2]
        by_cases h3 : j % 2 = 0
        · rw [if_pos h3, if_pos h3, if_neg (by omega)]
        · rw [if_neg h3, if_neg h3, if_neg (by omega)]
end
theorem PRow.made (W : World) (n : Nat) : PRow (W.alloc (.cells (madeCells #[.bool false, .string ⟨#[]⟩] (n * 2)) 27)) W.heap.size n (fun _ => false) (fun _ => ⟨#[]⟩) := by
  have h := World.rowIs_alloc W (madeCells #[Value.bool false, Value.string ⟨#[]⟩] (n * 2)) 27 (pcells (fun _ => false) (fun _ => ⟨#[]⟩)) ?_
  · rw [size_madeCells] at h
    exact h
  · intro i hi
    rw [size_madeCells] at hi
    have e : i % 2 = 0 ∨ i % 2 = 1 := by omega
    unfold pcells
    rcases e with e | e
    · rw [if_pos e]; simp [madeCells, hi, e]
    · rw [if_neg (by omega)]; simp [madeCells, hi, e]
theorem infoI : (Tryz.prog.info? 27).map (fun i => (i.zero, i.size, i.bytes)) = some (some (.agg #[.bool false, .string ⟨#[]⟩]), 2, 24) := by kernel_rfl
theorem run_make2 (kl kc : IntKind) (n : Nat) (hn : n ≤ 1000000000) (w : World) :
    (Instr.makeSlice 22 (.int kl (n : Int)) (.int kc (n : Int))).run Tryz.prog w = .ok (.slice (some ⟨w.heap.size, 0, none⟩) n n) (w.alloc (.cells (madeCells #[.bool false, .string ⟨#[]⟩] (n * 2)) 27)) := by
  obtain ⟨i, hi, hzz⟩ := Option.map_eq_some_iff.1 infoI
  simp only [Prod.mk.injEq] at hzz
  obtain ⟨hz, hs, hb⟩ := hzz
  have hr := run_make (P := Tryz.prog) w 22 27 i _ Tryz.underlying22 hi hz kl kc n n (by omega) (Int.le_refl _) (by rw [hb]; omega) (by omega)
  simp only [Int.toNat_natCast, hs] at hr
  exact hr
theorem addr_snd (a : Addr) (i : Nat) : a.add (i * 2 + 1) = ⟨(a.add (i * 2)).block, (a.add (i * 2)).off + 1, none⟩ := by
  unfold Addr.add
  by_cases h : i * 2 = 0
  · simp [h]
  · simp [h, Nat.add_assoc]
/-- A slice of integers of at most k digits to the base 2^32. -/
def PolyAt (W : World) (v : Value) (L : List Int) (k : Nat) : Prop :=
  ∃ (A : Option Addr) (c : Nat) (g : Nat → Bool) (s : Nat → ByteArray), v = .slice A L.length c ∧ L.length ≤ c ∧ ∀ i, i < L.length → ∃ a, A = some a ∧ W.cell? (a.add (i * 2)) = some (.bool (g i)) ∧ W.cell? ⟨(a.add (i * 2)).block, (a.add (i * 2)).off + 1, none⟩ = some (.string (s i)) ∧ IsInt (.agg #[.bool (g i), .string (s i)]) (co L i) k
theorem PolyAt.keep {W W1 : World} {v : Value} {L : List Int} {k : Nat} (h : PolyAt W v L k) (hb : Below W.heap.size W W1) : PolyAt W1 v L k := by
  obtain ⟨A, c, g, s, h1, h2, h3⟩ := h
  refine ⟨A, c, g, s, h1, h2, fun i hi => ?_⟩
  obtain ⟨a, ha, c0, c1, hI⟩ := h3 i hi
  exact ⟨a, ha, cell_keep c0 hb, cell_keep c1 hb, hI⟩
theorem cell_low {W0 W1 : World} {p : Addr} {x : Value} (h : W0.cell? p = some x) (hb : Below W0.heap.size W0 W1) : W1.cell? p = some x := cell_keep h hb
theorem PolyAt.keep2 {W W1 : World} {v : Value} {L : List Int} {k : Nat} (h : PolyAt W v L k) (hb : Below W.heap.size W W1) : PolyAt W1 v L k := h.keep hb
/-- Written canonically, in a row of its own. -/
def PolyC (W : World) (base : Nat) (v : Value) (L : List Int) : Prop :=
  (v = .slice none 0 0 ∧ L = []) ∨ ∃ b n c, v = .slice (some ⟨b, 0, none⟩) L.length c ∧ L.length ≤ n ∧ L.length ≤ c ∧ base ≤ b ∧ ∃ g s, PRow W b n g s ∧ ∀ i, i < L.length → g i = sg (co L i) ∧ s i = mg (co L i)
theorem PolyC.keep {W W1 : World} {base : Nat} {v : Value} {L : List Int} (h : PolyC W base v L) (hb : Below W.heap.size W W1) : PolyC W1 base v L := by
  rcases h with h | ⟨b, n, c, h1, h2, h3, h4, g, s, h5, h6⟩
  · exact .inl h
  · exact .inr ⟨b, n, c, h1, h2, h3, h4, g, s, h5.keep hb, h6⟩
/-- Sizes of coefficients. -/
def PB (L : List Int) (k : Nat) : Prop := ∀ i, (co L i).natAbs < 4294967296 ^ k
theorem PolyC.at {W : World} {base : Nat} {v : Value} {L : List Int} {k : Nat} (h : PolyC W base v L) (hk : k ≤ 10000000) (hb : PB L k) : PolyAt W v L k := by
  rcases h with ⟨rfl, rfl⟩ | ⟨b, n, c, rfl, h2, h3, h4, g, s, h5, h6⟩
  · exact ⟨none, 0, fun _ => false, fun _ => ⟨#[]⟩, rfl, Nat.le_refl _, fun i hi => absurd hi (by simp)⟩
  · refine ⟨some ⟨b, 0, none⟩, c, g, s, rfl, h3, fun i hi => ⟨_, rfl, ?_, ?_, ?_⟩⟩
    · obtain ⟨c0, -⟩ := h5.cell (show i < n by omega)
      have e : (⟨b, 0, none⟩ : Addr).add (i * 2) = ⟨b, i * 2, none⟩ := by unfold Addr.add; split <;> simp_all
      rw [e]; exact c0
    · obtain ⟨-, c1, -⟩ := h5.cell (show i < n by omega)
      have e : (⟨b, 0, none⟩ : Addr).add (i * 2) = ⟨b, i * 2, none⟩ := by unfold Addr.add; split <;> simp_all
      rw [e]; exact c1
    · rw [(h6 i hi).1, (h6 i hi).2]
      exact isInt_mg (hb i) hk
theorem PolyAt.pb {W : World} {v : Value} {L : List Int} {k : Nat} (h : PolyAt W v L k) : PB L k := by
  obtain ⟨A, c, g, s, h1, h2, h3⟩ := h
  intro i
  rcases Nat.lt_or_ge i L.length with hi | hi
  · obtain ⟨a, ha, c0, c1, hI⟩ := h3 i hi
    exact hI.bd
  · rw [co_ge hi]
    exact Nat.pow_pos (by omega)
/-- What returns a polynomial in a row of its own. -/
def PolyOut (w : World) (L : List Int) (e : Ending) (w' : World) : Prop := ∃ v, e = .returned v ∧ PolyC w' w.heap.size v L ∧ Below w.heap.size w w'
end Go.Proofs.YtgcogpfmhmmgdaaGreatDoor

namespace Go.Proofs.YtgcogpfmhmmgdaaGreatDoor
open Go.RowKit
set_option linter.unusedSimpArgs false
set_option linter.unusedVariables false

theorem nbits_zero {z : Int} : ((nbits z.natAbs : Nat) : Int) = 0 ↔ z = 0 := by
  constructor
  · intro h
    unfold nbits at h
    split at h
    · omega
    · omega
  · intro h
    subst h
    rfl
/-- The degree; -1 for 0. -/
def degZ (L : List Int) : Int := ((trm L).length : Int) - 1
theorem deg_of {L : List Int} {n : Nat} (h0 : ∀ i, n ≤ i → co L i = 0) (h1 : n = 0 ∨ co L (n - 1) ≠ 0) : degZ L = (n : Int) - 1 := by
  unfold degZ
  rw [trm_len_of h0 h1]
set_option maxRecDepth 100000 in
set_option maxHeartbeats 3200000 in
theorem deg_any (v : Value) (L : List Int) (k : Nat) (w : World) (h : PolyAt w v L k) (hn : L.length ≤ 1000000) :
    Calls Tryz.prog 10 #[v] w fun e w' => e = .returned (.int .i64 (degZ L)) ∧ Below w.heap.size w w' := by
  obtain ⟨A, c, g, s, rfl, hc, hcell⟩ := h
  have H := Lib.hid hcell
  clear hcell hc
  go_enter Tryz.func10, Tryz.ntmps10
  go_wp2_with fail
  go_loopg [3] L.length (fun q s3 wx => q ≤ L.length ∧ s3 = .int .i64 ((q : Int) - 1) ∧ Below w.heap.size w wx ∧ Hid (∀ i, q ≤ i → co L i = 0))
  case atStart => exact ⟨Nat.le_refl _, rfl, Below.refl _ _, fun i hi => co_ge hi⟩
  case round =>
    obtain ⟨hq, rfl, hb, hz⟩ := hrel
    rcases gk with _ | q
    · have HD := Lib.hid (deg_of hz.out (.inl rfl))
      go_wp2
      go_ret
      exact ⟨by rw [HD.out]; rfl, hb⟩
    · obtain ⟨a, rfl, c0, c1, hI⟩ := H.out q (by omega)
      have x0 := cell_keep c0 hb
      have x1 := cell_keep c1 hb
      have HI := Lib.hid hI
      obtain ⟨m, Hm⟩ : ∃ m : Int, Hid (((nbits (co L q).natAbs : Nat) : Int) = m) := ⟨_, Lib.hid rfl⟩
      have hq1 : ((q + 1 : Nat) : Int) - 1 = (q : Int) := by omega
      have hq0 : (0 : Int) ≤ (q : Int) := by omega
      have hql : (q : Int) < (L.length : Int) := by omega
      have HQ := Lib.hid hq
      clear c0 c1 hI hq
      rw [hq1]
      by_cases hm : m = 0
      · have hzq := nbits_zero.1 (Hm.out.trans hm)
        have HZ := Lib.hid (show ∀ i, q ≤ i → co L i = 0 by
          intro i hi
          rcases Nat.lt_or_ge q i with h1 | h1
          · exact hz.out i (by omega)
          · rw [show i = q by omega]; exact hzq)
        subst hm
        clear hz hzq
        go_wp2_with fail
        refine (ibits_any _ _ k _ HI.out).mono ?_
        rw [Hm.out]
        rintro e W1 ⟨rfl, b1⟩
        have hb2 := below_more hb (Nat.le_refl _) b1
        clear hb b1 x0 x1
        go_wp2_with fail
        go_roundg q
        case measure => omega
        case rel => exact ⟨by have := HQ.out; omega, by go_num, hb2, HZ⟩
      · have hzq : co L q ≠ 0 := fun h => hm (by rw [← Hm.out]; exact nbits_zero.2 h)
        have HD := Lib.hid (deg_of (n := q + 1) hz.out (.inr hzq))
        have hmb : (m == 0) = false := beq_eq_false_iff_ne.2 hm
        clear hz hzq hm
        go_wp2_with fail
        refine (ibits_any _ _ k _ HI.out).mono ?_
        rw [Hm.out]
        rintro e W1 ⟨rfl, b1⟩
        have hb2 := below_more hb (Nat.le_refl _) b1
        clear hb b1 x0 x1
        go_wp2
        go_ret
        exact ⟨by rw [HD.out, hq1]; rfl, hb2⟩
/-- What returns an integer as it lies there. -/
def IntIn (w : World) (z : Int) (k : Nat) (e : Ending) (w' : World) : Prop := ∃ g s, e = .returned (.agg #[.bool g, .string s]) ∧ IsInt (.agg #[.bool g, .string s]) z k ∧ Below w.heap.size w w'
theorem zero_at {k : Nat} (hk : k ≤ 10000000) : IsInt (.agg #[.bool false, .string ⟨#[]⟩]) 0 k := ⟨false, ⟨#[]⟩, rfl, by rfl, by decide, Nat.pow_pos (by omega), hk⟩
set_option maxRecDepth 100000 in
set_option maxHeartbeats 3200000 in
theorem coef_any (v : Value) (L : List Int) (k i : Nat) (w : World) (h : PolyAt w v L k) (hn : L.length ≤ 1000000) (hi : i ≤ 1000000000) (hk : k ≤ 10000000) :
    Calls Tryz.prog 72 #[v, .int .i64 (i : Int)] w (IntIn w (co L i) k) := by
  obtain ⟨A, c, g, s, rfl, hc, hcell⟩ := h
  have r := ResCell.new w 27
  obtain ⟨r1, r2, r3, r4⟩ := r
  have hb := below1 w (.cells #[.bool false, .string ⟨#[]⟩] 27)
  by_cases hl : i < L.length
  · obtain ⟨a, rfl, c0, c1, hI⟩ := hcell i hl
    have x0 := cell_keep c0 hb
    have x1 := cell_keep c1 hb
    have hil : (i : Int) < (L.length : Int) := by omega
    have HI := Lib.hid hI
    clear c0 c1 hI hcell hl
    go_enter Tryz.func72, Tryz.ntmps72
    go_wp2_with fail
    refine bodyPost_ret (v := .agg #[.bool (g i), .string (s i)]) (by simp [results, Tryz.results72, go_sem, r1, r2, r3, r4]) rfl ⟨g i, s i, rfl, HI.out, ?_⟩
    first | exact hb | exact below1 w _ | exact (hb.setCell (Nat.le_refl _) _).setCell (Nat.le_refl _) _
  · have hz : co L i = 0 := co_ge (by omega)
    have hil : (L.length : Int) ≤ (i : Int) := by omega
    rw [hz]
    clear hcell
    go_enter Tryz.func72, Tryz.ntmps72
    go_wp2_with fail
    refine bodyPost_ret (v := .agg #[.bool false, .string ⟨#[]⟩]) (by simp [results, Tryz.results72, go_sem, r1, r2, r3, r4]) rfl ⟨_, _, rfl, zero_at hk, ?_⟩
    first | exact hb | exact below1 w _ | exact (hb.setCell (Nat.le_refl _) _).setCell (Nat.le_refl _) _
set_option maxRecDepth 100000 in
theorem coef_neg (A : Option Addr) (n c : Nat) (k : Nat) (i : Int) (w : World) (hi : i < 0) (hk : k ≤ 10000000) :
    Calls Tryz.prog 72 #[.slice A n c, .int .i64 i] w (IntIn w 0 k) := by
  have r := ResCell.new w 27
  obtain ⟨r1, r2, r3, r4⟩ := r
  have hb := below1 w (.cells #[.bool false, .string ⟨#[]⟩] 27)
  go_enter Tryz.func72, Tryz.ntmps72
  go_wp2_with fail
  refine bodyPost_ret (v := .agg #[.bool false, .string ⟨#[]⟩]) (by simp [results, Tryz.results72, go_sem, r1, r2, r3, r4]) rfl ⟨_, _, rfl, zero_at hk, ?_⟩
  first | exact hb | exact below1 w _ | exact (hb.setCell (Nat.le_refl _) _).setCell (Nat.le_refl _) _
/-- The leading coefficient; 0 for 0. -/
def lead (L : List Int) : Int := if trm L = [] then 0 else co L ((trm L).length - 1)
set_option maxRecDepth 100000 in
theorem lead_any (v : Value) (L : List Int) (k : Nat) (w : World) (h : PolyAt w v L k) (hn : L.length ≤ 1000000) (hk : k ≤ 10000000) :
    Calls Tryz.prog 95 #[v] w (IntIn w (lead L) k) := by
  have H := Lib.hid h
  obtain ⟨A, c, g, s, rfl, -, -⟩ := h
  have r := ResCell.new w 27
  have hb := below1 w (.cells #[.bool false, .string ⟨#[]⟩] 27)
  go_enter Tryz.func95, Tryz.ntmps95
  go_wp2_with fail
  refine (deg_any _ L k _ (H.out.keep hb) hn).mono ?_
  rintro e W1 ⟨rfl, b1⟩
  have r := r.keep b1
  have hb1 := below_more hb (Nat.le_refl _) b1
  by_cases hL : trm L = []
  · have e : degZ L = -1 := by unfold degZ; rw [hL]; rfl
    have el : lead L = 0 := by unfold lead; rw [if_pos hL]
    rw [e]
    have El := Lib.hid el
    clear hL e el
    go_wp2_with fail
    refine (coef_neg _ _ _ k (-1) _ (by omega) hk).mono ?_
    rintro e W2 ⟨g2, s2, rfl, hI, b2⟩
    obtain ⟨r1, r2, r3, r4⟩ := r.keep b2
    have hb2 := below_more hb1 (Nat.le_refl _) b2
    go_wp2_with fail
    exact bodyPost_ret (v := .agg #[.bool g2, .string s2]) (by simp [results, Tryz.results95, go_sem, r1, r2, r3, r4]) rfl ⟨g2, s2, rfl, by rw [El.out]; exact hI, (hb2.setCell (Nat.le_refl _) _).setCell (Nat.le_refl _) _⟩
  · obtain ⟨m, hm⟩ : ∃ m, (trm L).length = m + 1 := ⟨(trm L).length - 1, by have := List.length_pos_iff.2 hL; omega⟩
    have e : degZ L = (m : Int) := by unfold degZ; rw [hm]; omega
    have el : lead L = co L m := by unfold lead; rw [if_neg hL, hm]; rfl
    have hml : m ≤ 1000000000 := by have := trm_len L; omega
    rw [e]
    have El := Lib.hid el
    clear hL e el hm
    go_wp2_with fail
    refine (coef_any _ L k m _ (H.out.keep2 hb1) hn hml hk).mono ?_
    rintro e W2 ⟨g2, s2, rfl, hI, b2⟩
    obtain ⟨r1, r2, r3, r4⟩ := r.keep b2
    have hb2 := below_more hb1 (Nat.le_refl _) b2
    go_wp2_with fail
    exact bodyPost_ret (v := .agg #[.bool g2, .string s2]) (by simp [results, Tryz.results95, go_sem, r1, r2, r3, r4]) rfl ⟨g2, s2, rfl, by rw [El.out]; exact hI, (hb2.setCell (Nat.le_refl _) _).setCell (Nat.le_refl _) _⟩
set_option maxRecDepth 100000 in
theorem large_any (v : Value) (L : List Int) (k : Nat) (w : World) (h : PolyAt w v L k) (hn : L.length ≤ 1000000) :
    Calls Tryz.prog 57 #[v] w fun e w' => e = .returned (.bool (decide (64 < degZ L))) ∧ Below w.heap.size w w' := by
  have H := Lib.hid h
  obtain ⟨A, c, g, s, rfl, -, -⟩ := h
  go_enter Tryz.func57, Tryz.ntmps57
  go_wp2_with fail
  refine (deg_any _ L k _ H.out hn).mono ?_
  rintro e W1 ⟨rfl, b1⟩
  go_wp2
  go_ret
  exact ⟨rfl, b1⟩
/-- A row of n zeros, or none. -/
def BlankOut (w : World) (n : Nat) (e : Ending) (w' : World) : Prop := (n = 0 ∧ e = .returned (.slice none 0 0) ∧ w' = w) ∨ (0 < n ∧ e = .returned (.slice (some ⟨w.heap.size, 0, none⟩) n n) ∧ w' = w.alloc (.cells (madeCells #[.bool false, .string ⟨#[]⟩] (n * 2)) 27))
set_option maxRecDepth 100000 in
theorem blank_any (d : Int) (n : Nat) (w : World) (hd : (n : Int) = d + 1 ∨ (n = 0 ∧ d < 0)) (hn : n ≤ 1000000000) (hd0 : -9223372036854775807 ≤ d) :
    Calls Tryz.prog 41 #[.int .i64 d] w (BlankOut w n) := by
  rcases Nat.eq_zero_or_pos n with h0 | h0
  · have h1 : d < 0 := by omega
    go_enter Tryz.func41, Tryz.ntmps41
    go_wp2
    go_ret
    exact .inl ⟨h0, rfl, rfl⟩
  · obtain rfl : d = (n : Int) - 1 := by omega
    have h1 : ¬ (n : Int) - 1 < 0 := by omega
    have hmk := run_make2 .i64 .i64 n hn
    go_enter Tryz.func41, Tryz.ntmps41
    go_wp2
    go_ret
    exact .inr ⟨h0, rfl, rfl⟩
end Go.Proofs.YtgcogpfmhmmgdaaGreatDoor
