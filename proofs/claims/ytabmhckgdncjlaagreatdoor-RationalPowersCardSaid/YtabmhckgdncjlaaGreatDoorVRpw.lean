/- What RationalPowers returns: true. Conditions: its table, and block 0. RationalPowers returns true for every input: the law's row, and its card, tied to the program's text. Conditions: those of the row: its tables read as listed (the card ties them to the program's text). -/
import Derived.Test.YtabmhckgdncjlaaGreatDoorQ38
import Derived.Test.YtabmhckgdncjlaaGreatDoorQ40

namespace Go.Proofs.YtabmhckgdncjlaaGreatDoor
open Go.RowKit
set_option linter.unusedSimpArgs false
set_option linter.unusedVariables false
attribute [local go_sem ↓] eqlInt guardInt2 eqlRat guardRat2

theorem rpow_add (q : Rat) (i j : Nat) : q ^ i * q ^ j = q ^ (i + j) := by
  induction j with
  | zero => rw [Rat.pow_zero, Rat.mul_one]; rfl
  | succ j ih => rw [Rat.pow_succ, ← Rat.mul_assoc, ih, ← Nat.add_assoc, Rat.pow_succ]
theorem rmul_pow (p q : Rat) (i : Nat) : p ^ i * q ^ i = (p * q) ^ i := by
  induction i with
  | zero => rw [Rat.pow_zero, Rat.pow_zero, Rat.pow_zero, Rat.mul_one]
  | succ i ih => rw [Rat.pow_succ, Rat.pow_succ, Rat.pow_succ, ← ih]; grind
theorem arg_rat8 {na nb : Bool} {sa sb : ByteArray} (ha : sa.size ≤ 8) (hb : sb.size ≤ 8) : IsRat (.agg #[.bool na, .string sa, .bool nb, .string sb]) (Rat.divInt (zv na sa) (zv nb sb)) 2 := by
  have h : ∀ (g : Bool) (s : ByteArray), s.size ≤ 8 → IsInt (.agg #[.bool g, .string s]) (zv g s) 2 := by
    intro g s hs
    refine ⟨g, s, rfl, rfl, by omega, ?_, by omega⟩
    rw [natAbs_zv]
    have h1 := vB_lt s.data.toList
    have h2 : (256 : Nat) ^ s.data.toList.length ≤ 256 ^ 8 := Nat.pow_le_pow_right (by omega) (by rw [Array.length_toList]; exact hs)
    have h3 : (256 : Nat) ^ 8 = 4294967296 ^ 2 := by decide
    omega
  exact ⟨na, sa, nb, sb, _, _, rfl, h na sa ha, h nb sb hb, rfl⟩
/-- Integers in a row. -/
def RdI (w : World) (b n : Nat) (g : Nat → Bool) (s : Nat → ByteArray) : Prop := ∀ i, i < n → w.cell? ⟨b, i * 2, none⟩ = some (.bool (g i)) ∧ w.cell? ⟨b, i * 2 + 1, none⟩ = some (.string (s i))
theorem RdI.keep {w w' : World} {b n : Nat} {g : Nat → Bool} {s : Nat → ByteArray} (hb : Below w.heap.size w w') (h : RdI w b n g s) : RdI w' b n g s := fun i hi => ⟨cell_keep (h i hi).1 hb, cell_keep (h i hi).2 hb⟩
theorem pow_room2 {k i : Nat} {q : Rat} (h : RatBd q k) (hk : i * (32 * k) ≤ 65536) : i * nbits q.num.natAbs ≤ 65536 ∧ i * nbits q.den ≤ 65536 :=
  ⟨Nat.le_trans (Nat.mul_le_mul_left i (nbits_bd h.1)) hk, Nat.le_trans (Nat.mul_le_mul_left i (nbits_bd h.2)) hk⟩

set_option maxRecDepth 100000 in
set_option maxHeartbeats 12800000 in
theorem powers_law (na : Bool) (sa : ByteArray) (ma : Bool) (ta : ByteArray) (nb : Bool) (sb : ByteArray) (mb : Bool) (tb : ByteArray) (n m : Nat) (w : World) (hsa : sa.size ≤ 9223372036854775807) (hta : ta.size ≤ 9223372036854775807) (hsb : sb.size ≤ 9223372036854775807) (htb : tb.size ≤ 9223372036854775807) (hn : n < 256) (hm : m < 256) (h0 : Zero0 w) (htab : Lib.TabIs Tryz.prog w "internal/strconv.uint64pow10" .u64 Lib.pow10Tab) :
    Calls Tryz.prog 7 #[.agg #[.bool na, .string sa, .bool ma, .string ta], .agg #[.bool nb, .string sb, .bool mb, .string tb], .int .u8 (n : Int), .int .u8 (m : Int)] w fun e w' => e = .returned (.bool true) ∧ Below w.heap.size w w' := by
  have H0 := Lib.hid h0
  have Ht := Lib.hid htab
  clear h0 htab
  obtain ⟨i, Ei⟩ : ∃ i, Hid (n % 21 = i) := ⟨_, Lib.hid rfl⟩
  obtain ⟨j, Ej⟩ : ∃ j, Hid (m % 21 = j) := ⟨_, Lib.hid rfl⟩
  have hi : i ≤ 20 := by rw [← Ei.out]; omega
  have hj : j ≤ 20 := by rw [← Ej.out]; omega
  have x1 : IntKind.i64.wrap (n : Int) = (n : Int) := IntWalk.i64_in _ (by omega)
  have x2 : IntKind.i64.wrap (m : Int) = (m : Int) := IntWalk.i64_in _ (by omega)
  have x3 : (n : Int).tmod 21 = (i : Int) := by rw [Int.tmod_eq_emod_of_nonneg (by omega), ← Ei.out]; omega
  have x4 : (m : Int).tmod 21 = (j : Int) := by rw [Int.tmod_eq_emod_of_nonneg (by omega), ← Ej.out]; omega
  have x5 : IntKind.i64.wrap (i : Int) = (i : Int) := IntWalk.i64_in _ (by omega)
  have x6 : IntKind.i64.wrap (j : Int) = (j : Int) := IntWalk.i64_in _ (by omega)
  obtain ⟨k, Ek⟩ : ∃ k, Hid (i + j = k) := ⟨_, Lib.hid rfl⟩
  have hk : k ≤ 40 := by have := Ek.out; omega
  have x7 : IntKind.i64.wrap ((i : Int) + (j : Int)) = (k : Int) := by rw [IntWalk.i64_in _ (by omega)]; have := Ek.out; omega
  have x8 : (i : Int) + (j : Int) = (k : Int) := by have := Ek.out; omega
  have X := Lib.hid x8
  clear x8
  go_enter Tryz.func7, Tryz.ntmps7
  go_wp2_with fail
  clear x1 x2 x3 x4
  go_loopg [39] 4 (fun g s39 wx => g ≤ 4 ∧ s39 = .int .i64 ((4 - g : Nat) : Int) ∧ Vars [(w.heap.size, [.bool na, .string sa, .bool ma, .string ta]), (w.heap.size + 1, [.bool nb, .string sb, .bool mb, .string tb])] wx ∧ RdI wx (w.heap.size + 1 + 1) 4 (sel [na, ma, nb, mb] false) (sel [sa, ta, sb, tb] ⟨#[]⟩) ∧ Below w.heap.size w wx ∧ Hid (∀ i, i < 4 - g → (sel [sa, ta, sb, tb] ⟨#[]⟩ i).size ≤ 8))
  case atStart =>
    refine ⟨Nat.le_refl _, rfl, ?_, ?_, below3 w _ _ _, fun i hi => absurd hi (by omega)⟩
    · exact Vars.cons (four_cells (by simp [go_sem]) (by simp [go_sem]) (by simp [go_sem]) (by simp [go_sem])) (Vars.cons (four_cells (by simp [go_sem]) (by simp [go_sem]) (by simp [go_sem]) (by simp [go_sem])) (Vars.nil _))
    · intro i hi
      have : i = 0 ∨ i = 1 ∨ i = 2 ∨ i = 3 := by omega
      rcases this with rfl | rfl | rfl | rfl <;> (refine ⟨?_, ?_⟩ <;> simp [go_sem, sel])
  case round =>
    obtain ⟨hg, rfl, K, RD, B, hall⟩ := hrel
    rcases gk with _ | g
    · have h0 := hall.out 0 (by omega)
      have h1 := hall.out 1 (by omega)
      have h2 := hall.out 2 (by omega)
      have h3 := hall.out 3 (by omega)
      have Aa := Lib.hid (arg_rat8 (na := na) (nb := ma) (sa := sa) (sb := ta) h0 h1)
      have Ab := Lib.hid (arg_rat8 (na := nb) (nb := mb) (sa := sb) (sb := tb) h2 h3)
      clear h0 h1 h2 h3 hall RD hsa hta hsb htb
      generalize Rat.divInt (zv na sa) (zv ma ta) = qa at *
      generalize Rat.divInt (zv nb sb) (zv mb tb) = qb at *
      have Da := Lib.hid Aa.out.bd
      have Ia := Lib.hid (IsRat.wider Aa.out (show 2 ≤ 400 by omega) (by omega))
      have Db := Lib.hid Ab.out.bd
      have Ib := Lib.hid (IsRat.wider Ab.out (show 2 ≤ 400 by omega) (by omega))
      obtain ⟨qx, Ex⟩ : ∃ r, Hid (qa ^ i = r) := ⟨_, Lib.hid rfl⟩
      have Dx := Lib.hid ((rbd_pow i Da.out Ex.out).wider (show 3 * i + 1 ≤ 400 by omega))
      have Ix := Lib.hid (rat_is Dx.out 400 (by omega) (by omega))
      have Nx := Lib.hid (pow_room2 (i := i) Da.out (by omega))
      obtain ⟨qy, Ey⟩ : ∃ r, Hid (qa ^ j = r) := ⟨_, Lib.hid rfl⟩
      have Dy := Lib.hid ((rbd_pow j Da.out Ey.out).wider (show 3 * j + 1 ≤ 400 by omega))
      have Iy := Lib.hid (rat_is Dy.out 400 (by omega) (by omega))
      have Ny := Lib.hid (pow_room2 (i := j) Da.out (by omega))
      obtain ⟨qz, Ez⟩ : ∃ r, Hid (qa ^ k = r) := ⟨_, Lib.hid rfl⟩
      have Dz := Lib.hid ((rbd_pow k Da.out Ez.out).wider (show 3 * k + 1 ≤ 400 by omega))
      have Iz := Lib.hid (rat_is Dz.out 400 (by omega) (by omega))
      have Nz := Lib.hid (pow_room2 (i := k) Da.out (by omega))
      obtain ⟨qu, Eu⟩ : ∃ r, Hid (qb ^ i = r) := ⟨_, Lib.hid rfl⟩
      have Du := Lib.hid ((rbd_pow i Db.out Eu.out).wider (show 3 * i + 1 ≤ 400 by omega))
      have Iu := Lib.hid (rat_is Du.out 400 (by omega) (by omega))
      have Nu := Lib.hid (pow_room2 (i := i) Db.out (by omega))
      obtain ⟨qm, Em⟩ : ∃ r, Hid (qa * qb = r) := ⟨_, Lib.hid rfl⟩
      have Dm := Lib.hid (rbd_mul Da.out Db.out Em.out)
      have Im := Lib.hid (rat_is Dm.out 400 (by omega) (by omega))
      obtain ⟨qv, Ev⟩ : ∃ r, Hid (qm ^ i = r) := ⟨_, Lib.hid rfl⟩
      have Dv := Lib.hid ((rbd_pow i Dm.out Ev.out).wider (show 7 * i + 1 ≤ 400 by omega))
      have Iv := Lib.hid (rat_is Dv.out 400 (by omega) (by omega))
      have Nv := Lib.hid (pow_room2 (i := i) Dm.out (by omega))
      have Exy := Lib.hid (show qx * qy = qz by rw [← Ex.out, ← Ey.out, ← Ez.out, ← Ek.out]; exact rpow_add _ _ _)
      have Exu := Lib.hid (show qx * qu = qv by rw [← Ex.out, ← Eu.out, ← Ev.out, ← Em.out]; exact rmul_pow _ _ _)
      have Sz := sameR_self (sg qz.num) (sg (qz.den : Int)) (mg qz.num) (mg (qz.den : Int))
      have Sv := sameR_self (sg qv.num) (sg (qv.den : Int)) (mg qv.num) (mg (qv.den : Int))
      obtain ⟨t1, t2, t3, t4, t5, t6, t7, t8⟩ : wr.cell? ⟨w.heap.size, 0, none⟩ = some (.bool na) ∧ wr.cell? ⟨w.heap.size, 1, none⟩ = some (.string sa) ∧ wr.cell? ⟨w.heap.size, 2, none⟩ = some (.bool ma) ∧ wr.cell? ⟨w.heap.size, 3, none⟩ = some (.string ta) ∧ wr.cell? ⟨w.heap.size + 1, 0, none⟩ = some (.bool nb) ∧ wr.cell? ⟨w.heap.size + 1, 1, none⟩ = some (.string sb) ∧ wr.cell? ⟨w.heap.size + 1, 2, none⟩ = some (.bool mb) ∧ wr.cell? ⟨w.heap.size + 1, 3, none⟩ = some (.string tb) := ⟨K.at 0 0 rfl, K.at 0 1 rfl, K.at 0 2 rfl, K.at 0 3 rfl, K.at 1 0 rfl, K.at 1 1 rfl, K.at 1 2 rfl, K.at 1 3 rfl⟩
      go_wp2_with fail
      refine (rpow_any _ qa qx 400 i _ Ia.out (by omega) (by omega) Nx.out.1 Nx.out.2 Ex.out).mono ?_
      rintro e W1 ⟨rfl, b1⟩
      have K := K.keep b1
      have B := below_more B (Nat.le_refl _) b1
      clear b1
      clear t1 t2 t3 t4 t5 t6 t7 t8
      have hbl := below1 W1 (.cells #[.bool (sg qx.num), .string (mg qx.num), .bool (sg (qx.den : Int)), .string (mg (qx.den : Int))] 25)
      have K : Vars ((W1.heap.size, [.bool (sg qx.num), .string (mg qx.num), .bool (sg (qx.den : Int)), .string (mg (qx.den : Int))]) :: [(w.heap.size, [.bool na, .string sa, .bool ma, .string ta]), (w.heap.size + 1, [.bool nb, .string sb, .bool mb, .string tb])]) (W1.alloc (.cells #[.bool (sg qx.num), .string (mg qx.num), .bool (sg (qx.den : Int)), .string (mg (qx.den : Int))] 25)) := Vars.new K _ _
      have B := below_more B (Nat.le_refl _) hbl
      clear hbl
      unfold ratV
      go_upto_region 9 with fail
      generalize W1.alloc (.cells #[.bool (sg qx.num), .string (mg qx.num), .bool (sg (qx.den : Int)), .string (mg (qx.den : Int))] 25) = V2 at *
      generalize W1.heap.size = p2 at *
      obtain ⟨t1, t2, t3, t4, t5, t6, t7, t8, t9, t10, t11, t12⟩ : V2.cell? ⟨p2, 0, none⟩ = some (.bool (sg qx.num)) ∧ V2.cell? ⟨p2, 1, none⟩ = some (.string (mg qx.num)) ∧ V2.cell? ⟨p2, 2, none⟩ = some (.bool (sg (qx.den : Int))) ∧ V2.cell? ⟨p2, 3, none⟩ = some (.string (mg (qx.den : Int))) ∧ V2.cell? ⟨w.heap.size, 0, none⟩ = some (.bool na) ∧ V2.cell? ⟨w.heap.size, 1, none⟩ = some (.string sa) ∧ V2.cell? ⟨w.heap.size, 2, none⟩ = some (.bool ma) ∧ V2.cell? ⟨w.heap.size, 3, none⟩ = some (.string ta) ∧ V2.cell? ⟨w.heap.size + 1, 0, none⟩ = some (.bool nb) ∧ V2.cell? ⟨w.heap.size + 1, 1, none⟩ = some (.string sb) ∧ V2.cell? ⟨w.heap.size + 1, 2, none⟩ = some (.bool mb) ∧ V2.cell? ⟨w.heap.size + 1, 3, none⟩ = some (.string tb) := ⟨K.at 0 0 rfl, K.at 0 1 rfl, K.at 0 2 rfl, K.at 0 3 rfl, K.at 1 0 rfl, K.at 1 1 rfl, K.at 1 2 rfl, K.at 1 3 rfl, K.at 2 0 rfl, K.at 2 1 rfl, K.at 2 2 rfl, K.at 2 3 rfl⟩
      go_wp2_with fail
      refine (rpow_any _ qa qy 400 j _ Ia.out (by omega) (by omega) Ny.out.1 Ny.out.2 Ey.out).mono ?_
      rintro e W3 ⟨rfl, b3⟩
      have K := K.keep b3
      have B := below_more B (Nat.le_refl _) b3
      clear b3
      clear t1 t2 t3 t4 t5 t6 t7 t8 t9 t10 t11 t12
      have hbl := below1 W3 (.cells #[.bool (sg qy.num), .string (mg qy.num), .bool (sg (qy.den : Int)), .string (mg (qy.den : Int))] 25)
      have K : Vars ((W3.heap.size, [.bool (sg qy.num), .string (mg qy.num), .bool (sg (qy.den : Int)), .string (mg (qy.den : Int))]) :: [(p2, [.bool (sg qx.num), .string (mg qx.num), .bool (sg (qx.den : Int)), .string (mg (qx.den : Int))]), (w.heap.size, [.bool na, .string sa, .bool ma, .string ta]), (w.heap.size + 1, [.bool nb, .string sb, .bool mb, .string tb])]) (W3.alloc (.cells #[.bool (sg qy.num), .string (mg qy.num), .bool (sg (qy.den : Int)), .string (mg (qy.den : Int))] 25)) := Vars.new K _ _
      have B := below_more B (Nat.le_refl _) hbl
      clear hbl
      unfold ratV
      go_upto_region 10 with fail
      generalize W3.alloc (.cells #[.bool (sg qy.num), .string (mg qy.num), .bool (sg (qy.den : Int)), .string (mg (qy.den : Int))] 25) = V4 at *
      generalize W3.heap.size = p4 at *
      obtain ⟨t1, t2, t3, t4, t5, t6, t7, t8, t9, t10, t11, t12, t13, t14, t15, t16⟩ : V4.cell? ⟨p4, 0, none⟩ = some (.bool (sg qy.num)) ∧ V4.cell? ⟨p4, 1, none⟩ = some (.string (mg qy.num)) ∧ V4.cell? ⟨p4, 2, none⟩ = some (.bool (sg (qy.den : Int))) ∧ V4.cell? ⟨p4, 3, none⟩ = some (.string (mg (qy.den : Int))) ∧ V4.cell? ⟨p2, 0, none⟩ = some (.bool (sg qx.num)) ∧ V4.cell? ⟨p2, 1, none⟩ = some (.string (mg qx.num)) ∧ V4.cell? ⟨p2, 2, none⟩ = some (.bool (sg (qx.den : Int))) ∧ V4.cell? ⟨p2, 3, none⟩ = some (.string (mg (qx.den : Int))) ∧ V4.cell? ⟨w.heap.size, 0, none⟩ = some (.bool na) ∧ V4.cell? ⟨w.heap.size, 1, none⟩ = some (.string sa) ∧ V4.cell? ⟨w.heap.size, 2, none⟩ = some (.bool ma) ∧ V4.cell? ⟨w.heap.size, 3, none⟩ = some (.string ta) ∧ V4.cell? ⟨w.heap.size + 1, 0, none⟩ = some (.bool nb) ∧ V4.cell? ⟨w.heap.size + 1, 1, none⟩ = some (.string sb) ∧ V4.cell? ⟨w.heap.size + 1, 2, none⟩ = some (.bool mb) ∧ V4.cell? ⟨w.heap.size + 1, 3, none⟩ = some (.string tb) := ⟨K.at 0 0 rfl, K.at 0 1 rfl, K.at 0 2 rfl, K.at 0 3 rfl, K.at 1 0 rfl, K.at 1 1 rfl, K.at 1 2 rfl, K.at 1 3 rfl, K.at 2 0 rfl, K.at 2 1 rfl, K.at 2 2 rfl, K.at 2 3 rfl, K.at 3 0 rfl, K.at 3 1 rfl, K.at 3 2 rfl, K.at 3 3 rfl⟩
      go_wp2_with fail
      refine (rpow_any _ qa qz 400 k _ Ia.out (by omega) (by omega) Nz.out.1 Nz.out.2 Ez.out).mono ?_
      rintro e W5 ⟨rfl, b5⟩
      have K := K.keep b5
      have B := below_more B (Nat.le_refl _) b5
      clear b5
      clear t1 t2 t3 t4 t5 t6 t7 t8 t9 t10 t11 t12 t13 t14 t15 t16
      have hbl := below1 W5 (.cells #[.bool (sg qz.num), .string (mg qz.num), .bool (sg (qz.den : Int)), .string (mg (qz.den : Int))] 25)
      have K : Vars ((W5.heap.size, [.bool (sg qz.num), .string (mg qz.num), .bool (sg (qz.den : Int)), .string (mg (qz.den : Int))]) :: [(p4, [.bool (sg qy.num), .string (mg qy.num), .bool (sg (qy.den : Int)), .string (mg (qy.den : Int))]), (p2, [.bool (sg qx.num), .string (mg qx.num), .bool (sg (qx.den : Int)), .string (mg (qx.den : Int))]), (w.heap.size, [.bool na, .string sa, .bool ma, .string ta]), (w.heap.size + 1, [.bool nb, .string sb, .bool mb, .string tb])]) (W5.alloc (.cells #[.bool (sg qz.num), .string (mg qz.num), .bool (sg (qz.den : Int)), .string (mg (qz.den : Int))] 25)) := Vars.new K _ _
      have B := below_more B (Nat.le_refl _) hbl
      clear hbl
      unfold ratV
      go_upto_region 11 with fail
      generalize W5.alloc (.cells #[.bool (sg qz.num), .string (mg qz.num), .bool (sg (qz.den : Int)), .string (mg (qz.den : Int))] 25) = V6 at *
      generalize W5.heap.size = p6 at *
      obtain ⟨t1, t2, t3, t4, t5, t6, t7, t8, t9, t10, t11, t12, t13, t14, t15, t16, t17, t18, t19, t20⟩ : V6.cell? ⟨p6, 0, none⟩ = some (.bool (sg qz.num)) ∧ V6.cell? ⟨p6, 1, none⟩ = some (.string (mg qz.num)) ∧ V6.cell? ⟨p6, 2, none⟩ = some (.bool (sg (qz.den : Int))) ∧ V6.cell? ⟨p6, 3, none⟩ = some (.string (mg (qz.den : Int))) ∧ V6.cell? ⟨p4, 0, none⟩ = some (.bool (sg qy.num)) ∧ V6.cell? ⟨p4, 1, none⟩ = some (.string (mg qy.num)) ∧ V6.cell? ⟨p4, 2, none⟩ = some (.bool (sg (qy.den : Int))) ∧ V6.cell? ⟨p4, 3, none⟩ = some (.string (mg (qy.den : Int))) ∧ V6.cell? ⟨p2, 0, none⟩ = some (.bool (sg qx.num)) ∧ V6.cell? ⟨p2, 1, none⟩ = some (.string (mg qx.num)) ∧ V6.cell? ⟨p2, 2, none⟩ = some (.bool (sg (qx.den : Int))) ∧ V6.cell? ⟨p2, 3, none⟩ = some (.string (mg (qx.den : Int))) ∧ V6.cell? ⟨w.heap.size, 0, none⟩ = some (.bool na) ∧ V6.cell? ⟨w.heap.size, 1, none⟩ = some (.string sa) ∧ V6.cell? ⟨w.heap.size, 2, none⟩ = some (.bool ma) ∧ V6.cell? ⟨w.heap.size, 3, none⟩ = some (.string ta) ∧ V6.cell? ⟨w.heap.size + 1, 0, none⟩ = some (.bool nb) ∧ V6.cell? ⟨w.heap.size + 1, 1, none⟩ = some (.string sb) ∧ V6.cell? ⟨w.heap.size + 1, 2, none⟩ = some (.bool mb) ∧ V6.cell? ⟨w.heap.size + 1, 3, none⟩ = some (.string tb) := ⟨K.at 0 0 rfl, K.at 0 1 rfl, K.at 0 2 rfl, K.at 0 3 rfl, K.at 1 0 rfl, K.at 1 1 rfl, K.at 1 2 rfl, K.at 1 3 rfl, K.at 2 0 rfl, K.at 2 1 rfl, K.at 2 2 rfl, K.at 2 3 rfl, K.at 3 0 rfl, K.at 3 1 rfl, K.at 3 2 rfl, K.at 3 3 rfl, K.at 4 0 rfl, K.at 4 1 rfl, K.at 4 2 rfl, K.at 4 3 rfl⟩
      go_wp2_with fail
      refine (rpow_any _ qb qu 400 i _ Ib.out (by omega) (by omega) Nu.out.1 Nu.out.2 Eu.out).mono ?_
      rintro e W7 ⟨rfl, b7⟩
      have K := K.keep b7
      have B := below_more B (Nat.le_refl _) b7
      clear b7
      clear t1 t2 t3 t4 t5 t6 t7 t8 t9 t10 t11 t12 t13 t14 t15 t16 t17 t18 t19 t20
      have hbl := below1 W7 (.cells #[.bool (sg qu.num), .string (mg qu.num), .bool (sg (qu.den : Int)), .string (mg (qu.den : Int))] 25)
      have K : Vars ((W7.heap.size, [.bool (sg qu.num), .string (mg qu.num), .bool (sg (qu.den : Int)), .string (mg (qu.den : Int))]) :: [(p6, [.bool (sg qz.num), .string (mg qz.num), .bool (sg (qz.den : Int)), .string (mg (qz.den : Int))]), (p4, [.bool (sg qy.num), .string (mg qy.num), .bool (sg (qy.den : Int)), .string (mg (qy.den : Int))]), (p2, [.bool (sg qx.num), .string (mg qx.num), .bool (sg (qx.den : Int)), .string (mg (qx.den : Int))]), (w.heap.size, [.bool na, .string sa, .bool ma, .string ta]), (w.heap.size + 1, [.bool nb, .string sb, .bool mb, .string tb])]) (W7.alloc (.cells #[.bool (sg qu.num), .string (mg qu.num), .bool (sg (qu.den : Int)), .string (mg (qu.den : Int))] 25)) := Vars.new K _ _
      have B := below_more B (Nat.le_refl _) hbl
      clear hbl
      unfold ratV
      go_upto_region 12 with fail
      generalize W7.alloc (.cells #[.bool (sg qu.num), .string (mg qu.num), .bool (sg (qu.den : Int)), .string (mg (qu.den : Int))] 25) = V8 at *
      generalize W7.heap.size = p8 at *
      obtain ⟨t1, t2, t3, t4, t5, t6, t7, t8, t9, t10, t11, t12, t13, t14, t15, t16, t17, t18, t19, t20, t21, t22, t23, t24⟩ : V8.cell? ⟨p8, 0, none⟩ = some (.bool (sg qu.num)) ∧ V8.cell? ⟨p8, 1, none⟩ = some (.string (mg qu.num)) ∧ V8.cell? ⟨p8, 2, none⟩ = some (.bool (sg (qu.den : Int))) ∧ V8.cell? ⟨p8, 3, none⟩ = some (.string (mg (qu.den : Int))) ∧ V8.cell? ⟨p6, 0, none⟩ = some (.bool (sg qz.num)) ∧ V8.cell? ⟨p6, 1, none⟩ = some (.string (mg qz.num)) ∧ V8.cell? ⟨p6, 2, none⟩ = some (.bool (sg (qz.den : Int))) ∧ V8.cell? ⟨p6, 3, none⟩ = some (.string (mg (qz.den : Int))) ∧ V8.cell? ⟨p4, 0, none⟩ = some (.bool (sg qy.num)) ∧ V8.cell? ⟨p4, 1, none⟩ = some (.string (mg qy.num)) ∧ V8.cell? ⟨p4, 2, none⟩ = some (.bool (sg (qy.den : Int))) ∧ V8.cell? ⟨p4, 3, none⟩ = some (.string (mg (qy.den : Int))) ∧ V8.cell? ⟨p2, 0, none⟩ = some (.bool (sg qx.num)) ∧ V8.cell? ⟨p2, 1, none⟩ = some (.string (mg qx.num)) ∧ V8.cell? ⟨p2, 2, none⟩ = some (.bool (sg (qx.den : Int))) ∧ V8.cell? ⟨p2, 3, none⟩ = some (.string (mg (qx.den : Int))) ∧ V8.cell? ⟨w.heap.size, 0, none⟩ = some (.bool na) ∧ V8.cell? ⟨w.heap.size, 1, none⟩ = some (.string sa) ∧ V8.cell? ⟨w.heap.size, 2, none⟩ = some (.bool ma) ∧ V8.cell? ⟨w.heap.size, 3, none⟩ = some (.string ta) ∧ V8.cell? ⟨w.heap.size + 1, 0, none⟩ = some (.bool nb) ∧ V8.cell? ⟨w.heap.size + 1, 1, none⟩ = some (.string sb) ∧ V8.cell? ⟨w.heap.size + 1, 2, none⟩ = some (.bool mb) ∧ V8.cell? ⟨w.heap.size + 1, 3, none⟩ = some (.string tb) := ⟨K.at 0 0 rfl, K.at 0 1 rfl, K.at 0 2 rfl, K.at 0 3 rfl, K.at 1 0 rfl, K.at 1 1 rfl, K.at 1 2 rfl, K.at 1 3 rfl, K.at 2 0 rfl, K.at 2 1 rfl, K.at 2 2 rfl, K.at 2 3 rfl, K.at 3 0 rfl, K.at 3 1 rfl, K.at 3 2 rfl, K.at 3 3 rfl, K.at 4 0 rfl, K.at 4 1 rfl, K.at 4 2 rfl, K.at 4 3 rfl, K.at 5 0 rfl, K.at 5 1 rfl, K.at 5 2 rfl, K.at 5 3 rfl⟩
      go_wp2_with fail
      refine (rmul_any _ _ qa qb qm 400 _ Ia.out Ib.out (by omega) Em.out).mono ?_
      rintro e W9 ⟨rfl, b9⟩
      have K := K.keep b9
      have B := below_more B (Nat.le_refl _) b9
      clear b9
      clear t1 t2 t3 t4 t5 t6 t7 t8 t9 t10 t11 t12 t13 t14 t15 t16 t17 t18 t19 t20 t21 t22 t23 t24
      go_wp2_with fail
      refine (rpow_any _ qm qv 400 i _ Im.out (by omega) (by omega) Nv.out.1 Nv.out.2 Ev.out).mono ?_
      rintro e W10 ⟨rfl, b10⟩
      have K := K.keep b10
      have B := below_more B (Nat.le_refl _) b10
      clear b10
      have hbl := below1 W10 (.cells #[.bool (sg qv.num), .string (mg qv.num), .bool (sg (qv.den : Int)), .string (mg (qv.den : Int))] 25)
      have K : Vars ((W10.heap.size, [.bool (sg qv.num), .string (mg qv.num), .bool (sg (qv.den : Int)), .string (mg (qv.den : Int))]) :: [(p8, [.bool (sg qu.num), .string (mg qu.num), .bool (sg (qu.den : Int)), .string (mg (qu.den : Int))]), (p6, [.bool (sg qz.num), .string (mg qz.num), .bool (sg (qz.den : Int)), .string (mg (qz.den : Int))]), (p4, [.bool (sg qy.num), .string (mg qy.num), .bool (sg (qy.den : Int)), .string (mg (qy.den : Int))]), (p2, [.bool (sg qx.num), .string (mg qx.num), .bool (sg (qx.den : Int)), .string (mg (qx.den : Int))]), (w.heap.size, [.bool na, .string sa, .bool ma, .string ta]), (w.heap.size + 1, [.bool nb, .string sb, .bool mb, .string tb])]) (W10.alloc (.cells #[.bool (sg qv.num), .string (mg qv.num), .bool (sg (qv.den : Int)), .string (mg (qv.den : Int))] 25)) := Vars.new K _ _
      have B := below_more B (Nat.le_refl _) hbl
      clear hbl
      unfold ratV
      go_upto_region 13 with fail
      generalize W10.alloc (.cells #[.bool (sg qv.num), .string (mg qv.num), .bool (sg (qv.den : Int)), .string (mg (qv.den : Int))] 25) = V11 at *
      generalize W10.heap.size = p11 at *
      have K0 : Vars [(p11, [.bool (sg qv.num), .string (mg qv.num), .bool (sg (qv.den : Int)), .string (mg (qv.den : Int))]), (p8, [.bool (sg qu.num), .string (mg qu.num), .bool (sg (qu.den : Int)), .string (mg (qu.den : Int))]), (p6, [.bool (sg qz.num), .string (mg qz.num), .bool (sg (qz.den : Int)), .string (mg (qz.den : Int))]), (p4, [.bool (sg qy.num), .string (mg qy.num), .bool (sg (qy.den : Int)), .string (mg (qy.den : Int))]), (p2, [.bool (sg qx.num), .string (mg qx.num), .bool (sg (qx.den : Int)), .string (mg (qx.den : Int))]), (w.heap.size, [.bool na, .string sa, .bool ma, .string ta]), (w.heap.size + 1, [.bool nb, .string sb, .bool mb, .string tb])] V11.drew := K
      have B0 := B.drew
      have KB := And.intro K0 B0
      clear K0 B0
      have FL := Lib.hid (show ∀ W, Vars [(p11, [.bool (sg qv.num), .string (mg qv.num), .bool (sg (qv.den : Int)), .string (mg (qv.den : Int))]), (p8, [.bool (sg qu.num), .string (mg qu.num), .bool (sg (qu.den : Int)), .string (mg (qu.den : Int))]), (p6, [.bool (sg qz.num), .string (mg qz.num), .bool (sg (qz.den : Int)), .string (mg (qz.den : Int))]), (p4, [.bool (sg qy.num), .string (mg qy.num), .bool (sg (qy.den : Int)), .string (mg (qy.den : Int))]), (p2, [.bool (sg qx.num), .string (mg qx.num), .bool (sg (qx.den : Int)), .string (mg (qx.den : Int))]), (w.heap.size, [.bool na, .string sa, .bool ma, .string ta]), (w.heap.size + 1, [.bool nb, .string sb, .bool mb, .string tb])] W → (W.cell? ⟨p11, 0, none⟩ = some (.bool (sg qv.num)) ∧ W.cell? ⟨p11, 1, none⟩ = some (.string (mg qv.num)) ∧ W.cell? ⟨p11, 2, none⟩ = some (.bool (sg (qv.den : Int))) ∧ W.cell? ⟨p11, 3, none⟩ = some (.string (mg (qv.den : Int))) ∧ W.cell? ⟨p8, 0, none⟩ = some (.bool (sg qu.num)) ∧ W.cell? ⟨p8, 1, none⟩ = some (.string (mg qu.num)) ∧ W.cell? ⟨p8, 2, none⟩ = some (.bool (sg (qu.den : Int))) ∧ W.cell? ⟨p8, 3, none⟩ = some (.string (mg (qu.den : Int))) ∧ W.cell? ⟨p6, 0, none⟩ = some (.bool (sg qz.num)) ∧ W.cell? ⟨p6, 1, none⟩ = some (.string (mg qz.num)) ∧ W.cell? ⟨p6, 2, none⟩ = some (.bool (sg (qz.den : Int))) ∧ W.cell? ⟨p6, 3, none⟩ = some (.string (mg (qz.den : Int))) ∧ W.cell? ⟨p4, 0, none⟩ = some (.bool (sg qy.num)) ∧ W.cell? ⟨p4, 1, none⟩ = some (.string (mg qy.num)) ∧ W.cell? ⟨p4, 2, none⟩ = some (.bool (sg (qy.den : Int))) ∧ W.cell? ⟨p4, 3, none⟩ = some (.string (mg (qy.den : Int))) ∧ W.cell? ⟨p2, 0, none⟩ = some (.bool (sg qx.num)) ∧ W.cell? ⟨p2, 1, none⟩ = some (.string (mg qx.num)) ∧ W.cell? ⟨p2, 2, none⟩ = some (.bool (sg (qx.den : Int))) ∧ W.cell? ⟨p2, 3, none⟩ = some (.string (mg (qx.den : Int))) ∧ W.cell? ⟨w.heap.size, 0, none⟩ = some (.bool na) ∧ W.cell? ⟨w.heap.size, 1, none⟩ = some (.string sa) ∧ W.cell? ⟨w.heap.size, 2, none⟩ = some (.bool ma) ∧ W.cell? ⟨w.heap.size, 3, none⟩ = some (.string ta) ∧ W.cell? ⟨w.heap.size + 1, 0, none⟩ = some (.bool nb) ∧ W.cell? ⟨w.heap.size + 1, 1, none⟩ = some (.string sb) ∧ W.cell? ⟨w.heap.size + 1, 2, none⟩ = some (.bool mb) ∧ W.cell? ⟨w.heap.size + 1, 3, none⟩ = some (.string tb)) from fun W h => ⟨h.at 0 0 rfl, h.at 0 1 rfl, h.at 0 2 rfl, h.at 0 3 rfl, h.at 1 0 rfl, h.at 1 1 rfl, h.at 1 2 rfl, h.at 1 3 rfl, h.at 2 0 rfl, h.at 2 1 rfl, h.at 2 2 rfl, h.at 2 3 rfl, h.at 3 0 rfl, h.at 3 1 rfl, h.at 3 2 rfl, h.at 3 3 rfl, h.at 4 0 rfl, h.at 4 1 rfl, h.at 4 2 rfl, h.at 4 3 rfl, h.at 5 0 rfl, h.at 5 1 rfl, h.at 5 2 rfl, h.at 5 3 rfl, h.at 6 0 rfl, h.at 6 1 rfl, h.at 6 2 rfl, h.at 6 3 rfl⟩)
      go_region_held3 (fun W => W.cell? ⟨p11, 0, none⟩ = some (.bool (sg qv.num)) ∧ W.cell? ⟨p11, 1, none⟩ = some (.string (mg qv.num)) ∧ W.cell? ⟨p11, 2, none⟩ = some (.bool (sg (qv.den : Int))) ∧ W.cell? ⟨p11, 3, none⟩ = some (.string (mg (qv.den : Int))) ∧ W.cell? ⟨p8, 0, none⟩ = some (.bool (sg qu.num)) ∧ W.cell? ⟨p8, 1, none⟩ = some (.string (mg qu.num)) ∧ W.cell? ⟨p8, 2, none⟩ = some (.bool (sg (qu.den : Int))) ∧ W.cell? ⟨p8, 3, none⟩ = some (.string (mg (qu.den : Int))) ∧ W.cell? ⟨p6, 0, none⟩ = some (.bool (sg qz.num)) ∧ W.cell? ⟨p6, 1, none⟩ = some (.string (mg qz.num)) ∧ W.cell? ⟨p6, 2, none⟩ = some (.bool (sg (qz.den : Int))) ∧ W.cell? ⟨p6, 3, none⟩ = some (.string (mg (qz.den : Int))) ∧ W.cell? ⟨p4, 0, none⟩ = some (.bool (sg qy.num)) ∧ W.cell? ⟨p4, 1, none⟩ = some (.string (mg qy.num)) ∧ W.cell? ⟨p4, 2, none⟩ = some (.bool (sg (qy.den : Int))) ∧ W.cell? ⟨p4, 3, none⟩ = some (.string (mg (qy.den : Int))) ∧ W.cell? ⟨p2, 0, none⟩ = some (.bool (sg qx.num)) ∧ W.cell? ⟨p2, 1, none⟩ = some (.string (mg qx.num)) ∧ W.cell? ⟨p2, 2, none⟩ = some (.bool (sg (qx.den : Int))) ∧ W.cell? ⟨p2, 3, none⟩ = some (.string (mg (qx.den : Int))) ∧ W.cell? ⟨w.heap.size, 0, none⟩ = some (.bool na) ∧ W.cell? ⟨w.heap.size, 1, none⟩ = some (.string sa) ∧ W.cell? ⟨w.heap.size, 2, none⟩ = some (.bool ma) ∧ W.cell? ⟨w.heap.size, 3, none⟩ = some (.string ta) ∧ W.cell? ⟨w.heap.size + 1, 0, none⟩ = some (.bool nb) ∧ W.cell? ⟨w.heap.size + 1, 1, none⟩ = some (.string sb) ∧ W.cell? ⟨w.heap.size + 1, 2, none⟩ = some (.bool mb) ∧ W.cell? ⟨w.heap.size + 1, 3, none⟩ = some (.string tb))
        (first | (with_reducible exact FL.out _ KB.1) | exact FL.out _ KB.1)
        (first
          | (go_at_call 13; (first | (with_reducible refine (rmul_any _ _ qx qy qz 400 _ Ix.out Iy.out (by omega) Exy.out).mono ?_) | (with_reducible refine (rmul_any _ _ qx qu qv 400 _ Ix.out Iu.out (by omega) Exu.out).mono ?_)); rintro e X ⟨rfl, bX⟩; (try unfold ratV); have KB := And.intro (KB.1.keep bX) (below_more KB.2 (Nat.le_refl _) bX))
          | (go_at_call 11; (with_reducible refine (awaker_any _ (H0.out.keep KB.2) (tab_keep Ht.out KB.2)).mono ?_); rintro e X ⟨rfl, bX⟩; (try unfold ratV); have KB := And.intro (KB.1.keep bX) (below_more KB.2 (Nat.le_refl _) bX)))
      all_goals
        go_wp2
        go_ret
        exact ⟨rfl, KB.2⟩
    · obtain ⟨i', hi'⟩ : ∃ i', i' = 4 - (g + 1) := ⟨_, rfl⟩
      rw [← hi'] at hall ⊢
      have hin : i' < 4 := by omega
      have HI : Hid (i' + 1 = 4 - g ∧ g + 1 ≤ 4) := by show _ ∧ _; omega
      obtain ⟨h1, h2⟩ := RD i' hin
      have RD' := Lib.hid RD
      have Hall := hall
      have hsz : (sel [sa, ta, sb, tb] ⟨#[]⟩ i').size ≤ 9223372036854775807 := by
        have : i' = 0 ∨ i' = 1 ∨ i' = 2 ∨ i' = 3 := by omega
        rcases this with rfl | rfl | rfl | rfl
        · exact hsa
        · exact hta
        · exact hsb
        · exact htb
      obtain ⟨si, Es⟩ : ∃ s, Hid (sel [sa, ta, sb, tb] ⟨#[]⟩ i' = s) := ⟨_, Lib.hid rfl⟩
      rw [Es.out] at h2 hsz
      generalize sel [na, ma, nb, mb] false i' = gi at h1
      have hb1 := below1 wr (.cells #[.bool gi, .string si] 23)
      have KV := Lib.hid (K.keep hb1)
      have RV := Lib.hid (RD'.out.keep hb1)
      have B1 := below_more B (Nat.le_refl _) hb1
      have Hall2 := Hall
      clear hi' hg RD K hall
      by_cases hbig : 8 < si.size
      · have hbw : decide ((8 : Int) < (si.size : Int)) = true := decide_eq_true (by omega)
        have hbz : (8 : Int) < (si.size : Int) := by omega
        go_wp2_with fail
        refine (awaker_any _ (H0.out.keep B1) (tab_keep Ht.out B1)).mono ?_
        rintro e W2 ⟨rfl, b2⟩
        go_wp2
        go_ret
        exact ⟨rfl, below_more B1 (Nat.le_refl _) b2⟩
      · have hbw : decide ((8 : Int) < (si.size : Int)) = false := decide_eq_false (by omega)
        have hbz : ¬ (8 : Int) < (si.size : Int) := by omega
        have hall2 : Hid (∀ j, j < i' + 1 → (sel [sa, ta, sb, tb] ⟨#[]⟩ j).size ≤ 8) := by
          intro j hj
          by_cases e : j = i'
          · subst e; rw [Es.out]; omega
          · exact Hall.out j (by omega)
        go_wp2
        go_roundg g
        case measure => omega
        case rel => exact ⟨by have := HI.out.2; omega, by rw [← HI.out.1]; rfl, KV.out, RV.out, B1, by rw [← HI.out.1]; exact hall2⟩
end Go.Proofs.YtabmhckgdncjlaaGreatDoor

namespace Go.Proofs.YtabmhckgdncjlaaGreatDoor.rationalPowers
open Go.ChangeShapes Go.WideShapes Go.ChangeAt Go.RowKit
open Go.ChangeMaps (open_string shut_string)
set_option maxRecDepth 100000
set_option linter.unusedVariables false

theorem contract (H : Type) (enc : TypeId × Value → H) (W : World) (base : Nat) (args : Array Value) (ds gs : List (DataW H)) (before : List MemPlace)
    (hval : ∀ (j : Nat) t v, Tryz.f7.params[j]? = some t → args[j]? = some v → Value.okWide Tryz.prog W .any base t v)
    (hW : DataW.Whole enc Tryz.prog Tryz.f7.params.toList Rows.rationalPowersSpec.vars false W args.toList ds gs before) (hL : laidMetH Tryz.prog Rows.rationalPowersRow.laid W) (hS : W.ShapedOpen Tryz.prog) :
    Calls Tryz.prog 7 args W fun e W' => ∃ v, e = .returned v ∧ Rows.rationalPowersSpec.post enc Tryz.prog Tryz.f7 false true false false W args v W' := by
  have hW' := hW
  obtain ⟨p, q, hA0, hV, rfl, hfz, hnd⟩ := hW
  have hA : DataW.TrodAll enc Tryz.prog W 0 (fun _ => true) true Tryz.f7.params.toList args.toList ds p := hA0
  rw [Tryz.params7] at hA hval
  obtain ⟨v0, vs0, d0, ds0, p0, q0, hargs, rfl, rfl, h0, r0⟩ := trodAll_cons hA
  obtain ⟨v1, vs1, d1, ds1, p1, q1, rfl, rfl, rfl, h1, r1⟩ := trodAll_cons r0
  obtain ⟨v2, vs2, d2, ds2, p2, q2, rfl, rfl, rfl, h2, r2⟩ := trodAll_cons r1
  obtain ⟨v3, vs3, d3, ds3, p3, q3, rfl, rfl, rfl, h3, r3⟩ := trodAll_cons r2
  obtain ⟨rfl, rfl, rfl⟩ := trodAll_nil r3
  obtain rfl : args = #[v0, v1, v2, v3] := by cases args; simp_all
  obtain ⟨rfl, rfl⟩ := trodVars_none hV
  obtain ⟨g0, s0, k0, t0, rfl, rfl, rfl, z0, y0⟩ := rat_open (hval 0 25 v0 rfl rfl) h0
  obtain ⟨g1, s1, k1, t1, rfl, rfl, rfl, z1, y1⟩ := rat_open (hval 1 25 v1 rfl rfl) h1
  obtain ⟨n2, rfl, rfl, rfl, w2⟩ := open_int Tryz.underlying5 (hval 2 5 v2 rfl rfl) h2
  have b2 : (IntKind.min .u8) ≤ n2 ∧ n2 ≤ (IntKind.max .u8) := by simpa [Lit.wf] using w2
  simp [IntKind.min, IntKind.max, IntKind.signed, IntKind.bits] at b2
  obtain ⟨m2, rfl⟩ : ∃ m : Nat, n2 = (m : Int) := ⟨n2.toNat, by omega⟩
  obtain ⟨n3, rfl, rfl, rfl, w3⟩ := open_int Tryz.underlying5 (hval 3 5 v3 rfl rfl) h3
  have b3 : (IntKind.min .u8) ≤ n3 ∧ n3 ≤ (IntKind.max .u8) := by simpa [Lit.wf] using w3
  simp [IntKind.min, IntKind.max, IntKind.signed, IntKind.bits] at b3
  obtain ⟨m3, rfl⟩ : ∃ m : Nat, n3 = (m : Int) := ⟨n3.toNat, by omega⟩
  clear hA0
  simp only [List.append_nil] at hW'
  refine (powers_law g0 s0 k0 t0 g1 s1 k1 t1 m2 m3 W z0 y0 z1 y1 (by omega) (by omega) (zero0 hS) (tabPow hL)).mono fun e W' ⟨he, hb⟩ => ?_
  subst he
  refine ⟨_, rfl, _, _, _, [], [], [], hW', ?_, ?_, ?_, hb.frame _, fun h => by cases h⟩
  · exact trodAll_cons_mk (p := []) (shut_bool Tryz.underlying4 true) trodAll_mk0
  · exact (trodAll_cons_mk (p := []) (rat_shut z0 y0) (trodAll_cons_mk (p := []) (rat_shut z1 y1) (trodAll_cons_mk (p := []) (shut_int Tryz.underlying5 w2) (trodAll_cons_mk (p := []) (shut_int Tryz.underlying5 w3) trodAll_mk0))))
  · rfl

theorem reads (os : Os) {H : Type} (enc : TypeId × Value → H) : ∃ places, DataW.whole enc Tryz.prog ((laidWorld os).forCall (fun _ _ => 0) ⟨#[], #[.agg #[.bool false, .string ⟨#[]⟩, .bool false, .string ⟨#[]⟩], .agg #[.bool false, .string ⟨#[]⟩, .bool false, .string ⟨#[]⟩], .int .u8 0, .int .u8 0], []⟩).memory Tryz.f7.params.toList Rows.rationalPowersSpec.vars false [.agg #[.bool false, .string ⟨#[]⟩, .bool false, .string ⟨#[]⟩], .agg #[.bool false, .string ⟨#[]⟩, .bool false, .string ⟨#[]⟩], .int .u8 0, .int .u8 0] 8 = some ([.agg [.agg [.lit (.bool false), .lit (.string [])], .agg [.lit (.bool false), .lit (.string [])]], .agg [.agg [.lit (.bool false), .lit (.string [])], .agg [.lit (.bool false), .lit (.string [])]], .lit (.int .u8 0), .lit (.int .u8 0)], [], places) :=
  ⟨[], by kernel_rfl⟩

theorem lifted (os : Os) (started : os.Started) (H : Type) (enc : TypeId × Value → H) (F : Stop.Interp) :
    ReturnsInHanded {} Tryz.checked os 7 .any ((OpenSpec.ofChange Rows.rationalPowersSpec).preRow enc Tryz.prog Tryz.f7 Rows.rationalPowersRow.domain false Rows.rationalPowersRow.laid) (((OpenSpec.ofChange Rows.rationalPowersSpec).at F).post enc Tryz.prog Tryz.f7 false true false false) := by
  obtain ⟨places, hx⟩ := reads os enc
  refine returnsInHanded_of_row (C := Tryz.checked) (s := OpenSpec.ofChange Rows.rationalPowersSpec) ownNone started (by kernel_rfl) Tryz.func7
    (witness_row_at (enc := enc) (C := Tryz.checked) false (laidWorld os) #[.agg #[.bool false, .string ⟨#[]⟩, .bool false, .string ⟨#[]⟩], .agg #[.bool false, .string ⟨#[]⟩, .bool false, .string ⟨#[]⟩], .int .u8 0, .int .u8 0] rfl (by kernel_rfl) (by kernel_rfl) (by kernel_rfl)
      (OpenSpec.preRow_of_cond 8 hx (by kernel_rfl) (fun k hk => by cases hk) (by kernel_rfl) (laid_met os _))) ?_
  intro W base args ds gs before hval hW _ _ _ hL hS _
  exact contract H enc W base args ds gs before hval hW hL hS

theorem said : Rows.RationalPowersSaid :=
  OpenClaim.holds_of_cond 7 Tryz.f7 rfl rfl rfl rfl rfl rfl rfl ⟨rfl, rfl, rfl, rfl, rfl⟩ rfl rfl rfl rfl rfl (by kernel_rfl) Tryz.func7 (by kernel_rfl)
    (of_decide_eq_true (by kernel_rfl)) (by unfold Func.isWrapper; first | (rw [if_pos (by decide +kernel)]; kernel_rfl) | (rw [if_neg (by decide +kernel)]; exact ⟨rfl, rfl⟩))
    (fun os started H enc _ F => by rw [OpenClaim.pre_eq_preRow]; exact lifted os started H enc F)

theorem plain (f : FuncId) (fn : Func) (hf : Tryz.pinned.checked.prog.funcNamed "groove/groovelaw02.RationalPowers" = some f) (hfn : Tryz.pinned.checked.prog.funcs[f]? = some fn) :
    false = Tryz.pinned.checked.prog.looks [] ∧ ∀ (j : Nat) t, fn.params[j]? = some t → Tryz.pinned.checked.prog.wantsStandIn t = false := by
  obtain rfl : f = 7 := Option.some.inj ((show Tryz.prog.funcNamed "groove/groovelaw02.RationalPowers" = some 7 by kernel_rfl).symm.trans hf) |>.symm
  obtain rfl : fn = Tryz.f7 := (Option.some.inj (Tryz.func7.symm.trans hfn)).symm
  refine ⟨by kernel_rfl, fun j t ht => ?_⟩
  rw [Tryz.params7] at ht
  have hm := Array.mem_of_getElem? ht
  have hm : t = 25 ∨ t = 25 ∨ t = 5 ∨ t = 5 := by simpa using hm
  rcases hm with rfl | rfl | rfl | rfl
  · exact noStandR
  · exact noStandR
  · exact noStand.2.2.2.2
  · exact noStand.2.2.2.2

/-- RationalPowers's card. -/
theorem card : Rows.RationalPowersCardSaid :=
  Claim7.holds_tied_plain_at .later [] _ _ _ _ said (fun _ h => by cases h) (by kernel_rfl) (fun _ h => by cases h) rationalPowers_row_tie rfl ⟨rfl, rfl⟩ (by kernel_rfl) rfl plain (by kernel_rfl)
end Go.Proofs.YtabmhckgdncjlaaGreatDoor.rationalPowers
