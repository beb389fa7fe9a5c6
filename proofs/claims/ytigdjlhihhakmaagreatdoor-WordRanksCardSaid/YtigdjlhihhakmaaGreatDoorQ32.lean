/- What the reference implementation's divMag returns. Condition: at most 10^7 bytes; the divisor is not 0. Words for the reference implementation's Div: its integers, and what it has at hand. Condition: at most 10^7 bytes. -/
import Derived.Test.YtigdjlhihhakmaaGreatDoorQ31
import Derived.Test.YtigdjlhihhakmaaGreatDoorQ23

namespace Go.Proofs.YtigdjlhihhakmaaGreatDoor
open Go.RowKit
set_option linter.unusedSimpArgs false
set_option linter.unusedVariables false

theorem cut_one (l : List UInt8) (k : Nat) (c : UInt8) (h : l[k]? = some c) (w : World) :
    (Instr.slice 9 (.string ⟨l.toArray⟩) (some (.int .i64 (k : Int))) (some (.int .i64 ((k : Int) + 1))) none).run Tryz.prog w = .ok (.string ⟨[c].toArray⟩) w := by
  have hk : k < l.length := by
    rcases Nat.lt_or_ge k l.length with h1 | h1
    · exact h1
    · rw [List.getElem?_eq_none h1] at h; cases h
  have hg : (l.drop k).take (k + 1 - k) = [c] := by
    rw [show k + 1 - k = 1 by omega, List.drop_eq_getElem_cons hk]
    rw [List.getElem?_eq_getElem hk] at h
    simp only [Option.some.injEq] at h
    rw [h]; rfl
  rw [show ((k : Int) + 1) = ((k + 1 : Nat) : Int) by omega, run_slice_string w 9 ⟨l.toArray⟩ .i64 .i64 k ((k + 1 : Nat) : Int) Tryz.underlying9 (by omega) (by omega) (by simp [ByteArray.size]; omega), Int.toNat_natCast, Int.toNat_natCast, ByteArray.extract_mk]
  rw [hg]
theorem app_bytes (a b : List UInt8) : (⟨a.toArray⟩ ++ ⟨b.toArray⟩ : ByteArray) = ⟨(a ++ b).toArray⟩ := by
  apply ByteArray.ext
  simp
/-- The divisor's multiples by powers of 2, as far as they have been made. -/
def trow (B k : Nat) : Nat → Value := fun j => .string (if j ≤ k then ⟨(bytesOf (B * 2 ^ j)).toArray⟩ else ⟨#[]⟩)
theorem trow_set {w : World} {b B k : Nat} {t : TypeId} (h : w.rowIs b t 8 (trow B k)) : (w.setCell ⟨b, k + 1, none⟩ (.string ⟨(bytesOf (B * 2 ^ (k + 1))).toArray⟩)).rowIs b t 8 (trow B (k + 1)) :=
  (h.set (k + 1) _).congr fun j _ => by
    unfold trow
    by_cases e : j = k + 1
    · subst e; rw [if_pos rfl, if_pos (Nat.le_refl _)]
    · rw [if_neg e]
      by_cases h1 : j ≤ k
      · rw [if_pos h1, if_pos (by omega)]
      · rw [if_neg h1, if_neg (by omega)]
theorem trow_at {w : World} {b B k : Nat} {t : TypeId} (h : w.rowIs b t 8 (trow B k)) (hk : k < 8) : w.cell? ⟨b, k, none⟩ = some (.string ⟨(bytesOf (B * 2 ^ k)).toArray⟩) := by
  rw [h.cell (i := k) hk, trow, if_pos (Nat.le_refl _)]
theorem trow_atS {w : World} {b B k : Nat} {t : TypeId} {v : Value} (h : w.rowIs b t 8 (trow B k)) (hk : k < 8) : (w.setCell ⟨b, k + 1, none⟩ v).cell? ⟨b, k, none⟩ = some (.string ⟨(bytesOf (B * 2 ^ k)).toArray⟩) := by
  rw [(h.set (k + 1) v).cell (i := k) hk, if_neg (by omega), trow, if_pos (Nat.le_refl _)]
/-- The quotient's bytes, from the first one on. -/
def frow (Q : List UInt8) : Nat → Value := fun p => .int .u8 (((Q.getD p 0).toNat : Nat) : Int)
theorem frow_set {w : World} {b n k : Nat} {t : TypeId} {Q : List UInt8} (h : w.rowIs b t n (frow Q)) (hk : Q.length = k) (c : UInt8) {x : Int} (hx : x = (c.toNat : Int)) : (w.setCell ⟨b, k, none⟩ (.int .u8 x)).rowIs b t n (frow (Q ++ [c])) :=
  (h.set k _).congr fun j _ => by
    subst hx hk
    unfold frow
    by_cases e : j = Q.length
    · subst e
      rw [if_pos rfl, List.getD_eq_getElem?_getD, List.getElem?_append_right (Nat.le_refl _), Nat.sub_self]; rfl
    · rw [if_neg e, List.getD_eq_getElem?_getD, List.getD_eq_getElem?_getD]
      rcases Nat.lt_or_ge j Q.length with h1 | h1
      · rw [List.getElem?_append_left h1]
      · rw [List.getElem?_eq_none h1, List.getElem?_eq_none (by rw [List.length_append, List.length_singleton]; omega)]
theorem frow_cell {w : World} {b n : Nat} {t : TypeId} {Q : List UInt8} (h : w.rowIs b t n (frow Q)) (hQ : Q.length = n) (i : Nat) (u : UInt8) (hu : Q[i]? = some u) : w.cell? ⟨b, 0 + i, none⟩ = some (.int .u8 (u.toNat : Int)) := by
  have hi : i < Q.length := by
    rcases Nat.lt_or_ge i Q.length with h1 | h1
    · exact h1
    · rw [List.getElem?_eq_none h1] at hu; cases hu
  rw [Nat.zero_add, h.cell (by omega)]
  unfold frow
  rw [List.getD_eq_getElem?_getD, hu]; rfl
theorem dbl (B k : Nat) : B * 2 ^ k + B * 2 ^ k = B * 2 ^ (k + 1) := by rw [Nat.pow_succ, ← Nat.mul_assoc]; omega
theorem pow_le8 {j : Nat} (h : j ≤ 8) : 2 ^ j ≤ 256 := Nat.pow_le_pow_right (by omega) h
theorem tlen {B j L : Nat} (hB : (bytesOf B).length ≤ L) (h : j ≤ 8) : (bytesOf (B * 2 ^ j)).length ≤ L + 1 := by
  apply bytesOf_len
  have h1 := vB_lt (bytesOf B)
  rw [vB_bytesOf] at h1
  have h2 : 256 ^ (bytesOf B).length ≤ 256 ^ L := Nat.pow_le_pow_right (by omega) hB
  have h3 : B * 2 ^ j ≤ B * 256 := Nat.mul_le_mul_left _ (pow_le8 h)
  rw [Nat.pow_succ]
  generalize 256 ^ L = P at *
  omega
theorem below_row {w1 w2 : World} {b n : Nat} {t : TypeId} {f : Nat → Value} (h : w1.rowIs b t n f) (hb : Below w1.heap.size w1 w2) : w2.rowIs b t n f := h.of_block (hb.block _ h.lt)
theorem div_fin {N Q B R : Nat} (h : N = Q * B + R) (hR : R < B) : N / B = Q ∧ N % B = R := by
  subst h
  constructor
  · rw [Nat.mul_comm, Nat.mul_add_div (by omega), Nat.div_eq_of_lt hR, Nat.add_zero]
  · rw [Nat.mul_comm, Nat.mul_add_mod, Nat.mod_eq_of_lt hR]
set_option maxRecDepth 100000 in
set_option maxHeartbeats 3200000 in
theorem rdivMag_any (a : List UInt8) (B : Nat) (w : World) (ha : a.length ≤ 10000000) (hB : B ≠ 0) (hBl : (bytesOf B).length ≤ 10000000) :
    Calls Tryz.prog 73 #[.string ⟨a.toArray⟩, .string ⟨(bytesOf B).toArray⟩] w fun e w' => e = .returned (.tuple #[.string ⟨(bytesOf (vB a / B)).toArray⟩, .string ⟨(bytesOf (vB a % B)).toArray⟩]) ∧ Below w.heap.size w w' := by
  have HTL := Lib.hid (show ∀ j, j ≤ 8 → (bytesOf (B * 2 ^ j)).length ≤ 10000001 from fun j h => tlen hBl h)
  clear hBl
  have R1 := Lib.hid (show (w.alloc (.cells #[.string ⟨(bytesOf B).toArray⟩, .string ⟨#[]⟩, .string ⟨#[]⟩, .string ⟨#[]⟩, .string ⟨#[]⟩, .string ⟨#[]⟩, .string ⟨#[]⟩, .string ⟨#[]⟩] 123)).rowIs w.heap.size 123 8 (trow B 0) by
    refine World.rowIs_alloc w #[.string ⟨(bytesOf B).toArray⟩, .string ⟨#[]⟩, .string ⟨#[]⟩, .string ⟨#[]⟩, .string ⟨#[]⟩, .string ⟨#[]⟩, .string ⟨#[]⟩, .string ⟨#[]⟩] 123 _ (fun i hi => ?_)
    have hi' : i = 0 ∨ i = 1 ∨ i = 2 ∨ i = 3 ∨ i = 4 ∨ i = 5 ∨ i = 6 ∨ i = 7 := by simp at hi; omega
    rcases hi' with rfl | rfl | rfl | rfl | rfl | rfl | rfl | rfl
    · unfold trow; rw [if_pos (Nat.le_refl _), Nat.pow_zero, Nat.mul_one]; rfl
    all_goals (unfold trow; rw [if_neg (by omega)]; rfl))
  obtain ⟨n, hn⟩ : ∃ n, a.length = n := ⟨_, rfl⟩
  rw [hn] at ha
  obtain ⟨bB, HB⟩ : ∃ b, Hid (bytesOf B = b) := ⟨_, Lib.hid rfl⟩
  rw [HB.out] at R1 ⊢
  go_enter Tryz.func73, Tryz.ntmps73
  go_wp2_with fail
  go_loopg [7] 7 (fun q s7 wx => ∃ k : Nat, k + q = 7 ∧ s7 = .int .i64 ((k : Int) + 1) ∧ wx.rowIs w.heap.size 123 8 (trow B k) ∧ Below w.heap.size w wx)
  case atStart => exact ⟨0, by omega, rfl, R1.out, below1 w _⟩
  case round =>
    obtain ⟨k, hk, rfl, hrow, hbl⟩ := hrel
    rcases gk with _ | q
    · obtain rfl : k = 7 := by omega
      clear R1 HB
      have hmk := run_make_row' (P := Tryz.prog) 56 5 (.int .u8 0) 1 Tryz.underlying56 Tryz.infoU8 rfl .i64 .i64 n (by omega) (by omega)
      obtain ⟨wo, rfl⟩ : ∃ wo : World, wo = wr := ⟨_, rfl⟩
      go_wp2_with fail
      clear hmk hk
      have hbw : w.heap.size < wo.heap.size := hrow.lt
      go_loopg [9, 10] n (fun q s9 s10 wx => ∃ (k R : Nat) (Q : List UInt8), k + q = n ∧ s10 = .int .i64 (k : Int) ∧ s9 = .string ⟨(bytesOf R).toArray⟩ ∧ Q.length = k ∧ Hid (vB (a.take k) = vB Q * B + R ∧ R < B) ∧ wx.rowIs w.heap.size 123 8 (trow B 7) ∧ wx.rowIs wo.heap.size 5 n (frow Q) ∧ Below w.heap.size w wx)
      case atStart => exact ⟨0, 0, [], by omega, rfl, by rw [bytesOf_zero], rfl, ⟨by simp [vB], by omega⟩, hrow.alloc _, by exact (World.rowIs_made wo _ _ _).congr (fun i _ => by simp [frow]), hbl.alloc hbl.size _⟩
      case round =>
        clear hrow hbl
        obtain ⟨k, R, Q, hk, rfl, rfl, hQ, HV, hrow, hrow2, hbl⟩ := hrel
        rcases gk with _ | q
        · obtain rfl : k = n := by omega
          have hcv := run_string_of wr wo.heap.size 0 k Q (fun i u hu => frow_cell hrow2 hQ i u hu)
          rw [hQ] at hcv
          have HF := Lib.hid (show vB a / B = vB Q ∧ vB a % B = R by
            have h := HV.out
            rw [List.take_of_length_le (by omega)] at h
            exact div_fin h.1 h.2)
          have HT := Lib.hid (trim_bytes Q)
          clear hrow hrow2 HV
          go_wp2_with fail
          refine (rtrim_any Q _ (by omega)).mono ?_
          rintro e W1 ⟨rfl, rfl⟩
          rw [HT.out]
          go_wp2
          exact bodyPost_ret (v := .tuple #[.string ⟨(bytesOf (vB Q)).toArray⟩, .string ⟨(bytesOf R).toArray⟩]) (by simp [results, Tryz.results73, go_sem]) rfl ⟨by rw [HF.out.1, HF.out.2], hbl⟩
        · have Hk := Lib.hid hk
          have hkn : k < n := by omega
          obtain ⟨c, hc⟩ : ∃ c, a[k]? = some c := ⟨_, List.getElem?_eq_getElem (by omega)⟩
          have hcut := cut_one a k c hc
          have happ := app_bytes (bytesOf R) [c]
          have HT := Lib.hid (show Lib.trimLeftB (bytesOf R ++ [c]) 0 = bytesOf (R * 256 + c.toNat) by rw [trim_bytes, vB_snoc, vB_bytesOf])
          have hcl := c.toNat_lt
          have hlR : (bytesOf R).length ≤ 10000001 := by
            have h1 := bytesOf_mono (show R ≤ B * 2 ^ 0 by have := HV.out.2; omega)
            have h2 := HTL.out 0 (by omega)
            omega
          have hlen : (bytesOf R ++ [c]).length ≤ 1000000000 := by
            rw [List.length_append, List.length_singleton]
            omega
          have HC := Lib.hid (vB_take_succ hc)
          clear hk hc
          obtain ⟨bRc, HbR⟩ : ∃ b, Hid (bytesOf R ++ [c] = b) := ⟨_, Lib.hid rfl⟩
          rw [HbR.out] at happ HT hlen
          clear HbR
          go_wp2_with fail
          refine (rtrim_any bRc _ hlen).mono ?_
          rintro e W1 ⟨rfl, h9⟩
          obtain rfl := h9.symm
          rw [HT.out]
          clear happ hlen HT hcut hlR
          obtain ⟨x, Hx⟩ : ∃ x, Hid (R * 256 + c.toNat = x) := ⟨_, Lib.hid rfl⟩
          rw [Hx.out]
          go_wp2_with fail
          go_loopg [9, 11, 12] 8 (fun q2 s9 s11 s12 wx => ∃ (d R2 : Nat), q2 ≤ 8 ∧ s12 = .int .i64 ((q2 : Int) - 1) ∧ s11 = .int .i64 (d : Int) ∧ s9 = .string ⟨(bytesOf R2).toArray⟩ ∧ Hid (x = d * B + R2 ∧ R2 < B * 2 ^ q2 ∧ d + 2 ^ q2 ≤ 256) ∧ wx.rowIs w.heap.size 123 8 (trow B 7) ∧ wx.rowIs wo.heap.size 5 n (frow Q) ∧ Below w.heap.size w wx)
          case atStart => exact ⟨0, x, by omega, rfl, rfl, rfl, ⟨by omega, by rw [← Hx.out]; have := HV.out.2; omega, by omega⟩, hrow, hrow2, hbl⟩
          case round =>
            clear hrow hrow2 hbl
            obtain ⟨d, R2, hq2, rfl, rfl, rfl, HI, hrow, hrow2, hbl⟩ := hrel
            rcases gk with _ | j
            · have hd : d < 256 := by have := HI.out.2.2; omega
              have hwd : IntKind.u8.wrap (d : Int) = (d : Int) := by rw [u8_wrap_nat, Nat.mod_eq_of_lt hd]
              have HW := Lib.hid (frow_set hrow2 hQ (UInt8.ofNat d) (x := (d : Int)) (by rw [toNat_of8 hd]))
              have HR := Lib.hid (hrow.setOther (a := ⟨wo.heap.size, k, none⟩) (by dsimp only; omega) (.int .u8 (d : Int)))
              have hw := hrow2.cell (i := k) hkn
              have hf := hrow2.frozen k
              have hI2 : vB (a.take (k + 1)) = vB (Q ++ [UInt8.ofNat d]) * B + R2 ∧ R2 < B := by
                obtain ⟨i1, i2, i3⟩ := HI.out
                refine ⟨?_, by simpa using i2⟩
                rw [HC.out, HV.out.1, vB_snoc, toNat_of8 hd, Nat.add_mul, Nat.add_mul]
                have h5 : vB Q * B * 256 = vB Q * 256 * B := by rw [Nat.mul_assoc, Nat.mul_comm B, ← Nat.mul_assoc]
                have := Hx.out
                omega
              have HI2 := Lib.hid hI2
              clear hI2 hrow hrow2 hd
              go_wp2_with fail
              go_roundg q
              case measure => omega
              case rel => exact ⟨k + 1, R2, Q ++ [UInt8.ofNat d], by have := Hk.out; omega, by go_num, rfl, by rw [List.length_append, hQ]; rfl, HI2, HR.out, HW.out, hbl.setCell (Nat.le_of_lt hbw) _⟩
            · have hc1 : wr.cell? ⟨w.heap.size, j, none⟩ = some (.string ⟨(bytesOf (B * 2 ^ j)).toArray⟩) := by
                rw [hrow.cell (i := j) (by omega), trow, if_pos (by omega)]
              have hb0 : (0 : Int) ≤ (j : Int) := by omega
              have hb1 : (j : Int) < 8 := by omega
              by_cases hle : B * 2 ^ j ≤ R2
              · have Hj := Lib.hid hq2
                obtain ⟨cc, hcc, hpos⟩ : ∃ cc, cmpN R2 (B * 2 ^ j) = cc ∧ 0 ≤ cc := by
                  refine ⟨_, rfl, ?_⟩
                  unfold cmpN
                  rw [if_neg (by omega)]
                  split <;> omega
                obtain ⟨R3, HR3⟩ : ∃ r, Hid (R2 - B * 2 ^ j = r) := ⟨_, Lib.hid rfl⟩
                have HI2 := Lib.hid (show x = (d + 2 ^ j) * B + R3 ∧ R3 < B * 2 ^ j ∧ (d + 2 ^ j) + 2 ^ j ≤ 256 by
                  obtain ⟨i1, i2, i3⟩ := HI.out
                  have h2 := dbl B j
                  have h3 : 2 ^ (j + 1) = 2 ^ j + 2 ^ j := by rw [Nat.pow_succ]; omega
                  have h4 := HR3.out
                  refine ⟨?_, by omega, by omega⟩
                  rw [i1, Nat.add_mul, Nat.mul_comm (2 ^ j)]
                  omega)
                have hlR2 : (bytesOf R2).length ≤ 100000000 := by
                  have h1 := bytesOf_mono (show R2 ≤ B * 2 ^ (j + 1) by have := HI.out.2.1; omega)
                  have h2 := HTL.out (j + 1) (by omega)
                  omega
                have hp2 : 2 ^ j ≤ 128 := by
                  have := HI2.out.2.2
                  omega
                have hd2 : d ≤ 256 := Nat.le_trans (Nat.le_add_right _ _) HI.out.2.2
                obtain ⟨pj, Hpj⟩ : ∃ p, Hid (2 ^ j = p) := ⟨_, Lib.hid rfl⟩
                have hpj : pj ≤ 128 := by rw [← Hpj.out]; exact hp2
                have hsh : IntKind.i64.wrap ((2 : Int) ^ j) = (pj : Int) := by
                  rw [show (2 : Int) ^ j = ((2 ^ j : Nat) : Int) by rw [Int.natCast_pow]; rfl, Hpj.out]
                  exact IntWalk.i64_in _ (by omega)
                clear HI hp2
                go_wp2_with fail
                refine (cmpMag_eq hcc).mono ?_
                rintro e W1 ⟨rfl, h9⟩
                obtain rfl := h9.symm
                go_wp2_with fail
                refine (rsubN hlR2 hle HR3.out).mono ?_
                rintro e W1 ⟨rfl, bX⟩
                have hrow := below_row hrow bX
                have hrow2 := below_row hrow2 bX
                have hbl := below_more hbl (Nat.le_refl _) bX
                go_wp2_with fail
                go_roundg j
                case measure => omega
                case rel => exact ⟨d + 2 ^ j, R3, by have := Hj.out; omega, by go_num, by rw [Hpj.out]; go_num, rfl, HI2, hrow, hrow2, hbl⟩
              · have Hj := Lib.hid hq2
                have hcc : cmpN R2 (B * 2 ^ j) = -1 := by
                  unfold cmpN
                  rw [if_pos (by omega)]
                have HI2 := Lib.hid (show x = d * B + R2 ∧ R2 < B * 2 ^ j ∧ d + 2 ^ j ≤ 256 by
                  obtain ⟨i1, i2, i3⟩ := HI.out
                  exact ⟨i1, by omega, Nat.le_trans (Nat.add_le_add_left (Nat.pow_le_pow_right (by omega) (Nat.le_succ j)) d) i3⟩)
                clear HI
                go_wp2_with fail
                refine (cmpMag_eq hcc).mono ?_
                rintro e W1 ⟨rfl, h9⟩
                obtain rfl := h9.symm
                go_wp2_with fail
                go_roundg j
                case measure => omega
                case rel => exact ⟨d, R2, by have := Hj.out; omega, by go_num, rfl, rfl, HI2, hrow, hrow2, hbl⟩
    · have hc1 : wr.cell? ⟨w.heap.size, k, none⟩ = some (.string ⟨(bytesOf (B * 2 ^ k)).toArray⟩) := by
        rw [hrow.cell (i := k) (by omega), trow, if_pos (Nat.le_refl _)]
      have Hk := Lib.hid hk
      have HL := HTL.out k (by omega)
      have hk7 : k < 7 := by omega
      have HD := Lib.hid (dbl B k)
      clear hk
      go_upto_region 6 with fail
      have hk8 : k < 8 := by omega
      have hb0 : (0 : Int) ≤ (k : Int) := by omega
      have hb1 : (k : Int) < 8 := by omega
      have hb2 : (k : Int) + 1 < 8 := by omega
      have hb3 : (0 : Int) ≤ (k : Int) + 1 := by omega
      have hw0 : IntKind.i64.wrap (k : Int) = (k : Int) := IntWalk.i64_in _ (by omega)
      have KB : wr.drew.rowIs w.heap.size 123 8 (trow B k) ∧ Below w.heap.size w wr.drew := ⟨hrow.drew, hbl.drew⟩
      clear hrow hbl
      go_region_held3 (fun W => W.cell? ⟨w.heap.size, k, none⟩ = some (.string ⟨(bytesOf (B * 2 ^ k)).toArray⟩)) (first | (with_reducible exact trow_at KB.1 hk8) | (with_reducible exact trow_atS KB.1 hk8) | exact trow_at KB.1 hk8)
        (first
          | (go_at_call 60; refine (raddN (by omega) (by omega) HD.out).mono ?_; rintro e X ⟨rfl, bX⟩; have KB := And.intro (below_row KB.1 bX) (below_more KB.2 (Nat.le_refl _) bX); have hc2 := KB.1.cell (i := k + 1) (by omega); have hf2 := KB.1.frozen (k + 1)))
      all_goals
        go_wp2_with fail
        go_roundg q
        case measure => omega
        case rel => exact ⟨k + 1, by have := Hk.out; omega, by go_num, trow_set KB.1, KB.2.setCell (Nat.le_refl _) _⟩
end Go.Proofs.YtigdjlhihhakmaaGreatDoor

namespace Go.Proofs.YtigdjlhihhakmaaGreatDoor
open Go.RowKit
set_option linter.unusedSimpArgs false
set_option linter.unusedVariables false

theorem zvn (g : Bool) (N : Nat) : zv g ⟨(bytesOf N).toArray⟩ = if g then -(N : Int) else (N : Int) := by
  rw [← value_small, vB_bytesOf]
/-- The quotient and the remainder, before the signs are looked at: as integers. -/
theorem nat_int (N : Nat) : sg (N : Int) = false ∧ mg (N : Int) = ⟨(bytesOf N).toArray⟩ := ⟨decide_eq_false (by omega), by unfold mg; rw [Int.natAbs_natCast]⟩
theorem div_same {z1 z2 : Int} (h : sg z1 = sg z2) : qD z1 z2 = ((z1.natAbs / z2.natAbs : Nat) : Int) ∧ rD z1 z2 = if sg z2 then -((z1.natAbs % z2.natAbs : Nat) : Int) else ((z1.natAbs % z2.natAbs : Nat) : Int) := by
  unfold qD rD
  rw [h]
  simp [dq, dr]
theorem div_diff {z1 z2 : Int} (h : sg z1 ≠ sg z2) : (z1.natAbs % z2.natAbs = 0 → qD z1 z2 = -((z1.natAbs / z2.natAbs : Nat) : Int) ∧ rD z1 z2 = 0) ∧
    (z1.natAbs % z2.natAbs ≠ 0 → qD z1 z2 = -((z1.natAbs / z2.natAbs : Nat) : Int) - 1 ∧ rD z1 z2 = if sg z2 then -((z2.natAbs - z1.natAbs % z2.natAbs : Nat) : Int) else ((z2.natAbs - z1.natAbs % z2.natAbs : Nat) : Int)) := by
  have e : (sg z1 != sg z2) = true := by simpa using h
  unfold qD rD
  rw [e]
  constructor
  · intro h0
    simp [dq, dr, h0]
  · intro h0
    simp [dq, dr, h0]
    omega
theorem rsml_b {N : Nat} {b : List UInt8} {w : World} (hb : bytesOf N = b) (h : b.length < 8) :
    Calls Tryz.prog 72 #[.string ⟨b.toArray⟩] w fun e w' => e = .returned (.int .i64 (N : Int)) ∧ Below w.heap.size w w' := by
  subst hb
  have h3 := small_lt h
  refine (rsmall_any (bytesOf N) w (by omega) (by rw [vB_bytesOf]; omega)).mono ?_
  rintro e w' ⟨rfl, rfl⟩
  exact ⟨by rw [vB_bytesOf], Below.refl _ _⟩
theorem rdivM_b {N1 N2 Q R : Nat} {b1 b2 q r : List UInt8} {w : World} (e1 : bytesOf N1 = b1) (e2 : bytesOf N2 = b2) (h1 : b1.length ≤ 10000000) (h2 : b2.length ≤ 10000000) (h0 : N2 ≠ 0) (eq : N1 / N2 = Q) (er : N1 % N2 = R) (e3 : bytesOf Q = q) (e4 : bytesOf R = r) :
    Calls Tryz.prog 73 #[.string ⟨b1.toArray⟩, .string ⟨b2.toArray⟩] w fun e w' => e = .returned (.tuple #[.string ⟨q.toArray⟩, .string ⟨r.toArray⟩]) ∧ Below w.heap.size w w' := by
  subst e1 e2 eq er e3 e4
  have h := rdivMag_any (bytesOf N1) N2 w h1 h0 h2
  rw [vB_bytesOf] at h
  exact h
theorem rneg_mg {x y : Int} {w : World} (hl : (bytesOf x.natAbs).length ≤ 10000000) (e : -x = y) : Calls Tryz.prog 74 #[.agg #[.bool (sg x), .string (mg x)]] w (IntOut w y) :=
  rneg_eq (l := bytesOf x.natAbs) (by omega) (zv_mg x) e
theorem rsub_mg {x y z : Int} {w : World} (hx : (bytesOf x.natAbs).length ≤ 10000000) (hy : (bytesOf y.natAbs).length ≤ 10000000) (e : x - y = z) : Calls Tryz.prog 75 #[.agg #[.bool (sg x), .string (mg x)], .agg #[.bool (sg y), .string (mg y)]] w (IntOut w z) :=
  e ▸ rsub01_any (sg x) (sg y) (bytesOf x.natAbs) (bytesOf y.natAbs) x y w (by omega) (by omega) (zv_mg x) (zv_mg y)
theorem rsub_nm {N R : Nat} {b : List UInt8} {z : Int} {w : World} (hb : bytesOf N = b) (hl : b.length ≤ 10000000) (hR : (bytesOf R).length ≤ 10000000) (e : (N : Int) - (R : Int) = z) : Calls Tryz.prog 75 #[.agg #[.bool false, .string ⟨b.toArray⟩], .agg #[.bool (sg (R : Int)), .string (mg (R : Int))]] w (IntOut w z) := by
  have h := rsub_mg (x := (N : Int)) (y := (R : Int)) (z := z) (w := w) (by rw [Int.natAbs_natCast, hb]; exact hl) (by rw [Int.natAbs_natCast]; exact hR) e
  rw [(nat_int N).1, (nat_int N).2, hb] at h
  exact h
theorem rsub_nb {N R : Nat} {b br : List UInt8} {z : Int} {w : World} (hb : bytesOf N = b) (hr : bytesOf R = br) (hl : b.length ≤ 10000000) (hR : (bytesOf R).length ≤ 10000000) (e : (N : Int) - (R : Int) = z) : Calls Tryz.prog 75 #[.agg #[.bool false, .string ⟨b.toArray⟩], .agg #[.bool (sg (R : Int)), .string ⟨br.toArray⟩]] w (IntOut w z) := by
  have h := rsub_nm hb hl hR e (w := w)
  rw [(nat_int R).2, hr] at h
  exact h
theorem rD_abs {z1 z2 : Int} (h : z2 ≠ 0) : (rD z1 z2).natAbs ≤ z2.natAbs := by
  have h1 : z1.natAbs % z2.natAbs < z2.natAbs := Nat.mod_lt _ (by omega)
  unfold rD dr
  generalize z1.natAbs % z2.natAbs = m at *
  split <;> split <;> simp <;> omega
theorem mg_ne {R : Nat} (h : R ≠ 0) : ¬ mg (R : Int) = ⟨#[]⟩ := by
  intro e
  rw [(nat_int R).2] at e
  have h1 : (bytesOf R).toArray = #[] := by injection e
  have h2 : bytesOf R = [] := by simpa using h1
  exact h (bytesOf_nil.1 h2)
/-- Two integers and two results' boxes. -/
def Bx4 (W : World) (p : Nat) (g1 g2 : Bool) (s1 s2 : ByteArray) : Prop := Bx3 W p g1 g2 s1 s2 ∧ Box2 W (p + 1 + 1 + 1) false ⟨#[]⟩
theorem Bx4.keep {W W1 : World} {p : Nat} {g1 g2 : Bool} {s1 s2 : ByteArray} (h : Bx4 W p g1 g2 s1 s2) (hb : Below W.heap.size W W1) : Bx4 W1 p g1 g2 s1 s2 := ⟨h.1.keep hb, h.2.keep hb⟩
theorem Bx4.start (w : World) (t : TypeId) (g1 g2 : Bool) (s1 s2 : ByteArray) : Bx4 ((((w.alloc (.cells #[.bool g1, .string s1] t)).alloc (.cells #[.bool g2, .string s2] t)).alloc (.cells #[.bool false, .string ⟨#[]⟩] t)).alloc (.cells #[.bool false, .string ⟨#[]⟩] t)) w.heap.size g1 g2 s1 s2 := by
  refine ⟨(Bx3.start w t g1 g2 s1 s2).keep (below1 _ _), ?_, ?_, ?_, ?_⟩ <;> simp [go_sem]
theorem Box2.new (W : World) (t : TypeId) (g : Bool) (s : ByteArray) : Box2 (W.alloc (.cells #[.bool g, .string s] t)) W.heap.size g s := by
  refine ⟨?_, ?_, ?_, ?_⟩ <;> simp [go_sem]
/-- All that Div has at hand: the integers, the results' boxes, the quotient and the remainder. -/
def Dv (W : World) (p u v : Nat) (g1 g2 : Bool) (s1 s2 : ByteArray) (zq zr : Int) : Prop := Bx4 W p g1 g2 s1 s2 ∧ Box2 W u (sg zq) (mg zq) ∧ Box2 W v (sg zr) (mg zr) ∧ p + 1 + 1 + 1 < u ∧ u < v
theorem Dv.keep {W W1 : World} {p u v : Nat} {g1 g2 : Bool} {s1 s2 : ByteArray} {zq zr : Int} (h : Dv W p u v g1 g2 s1 s2 zq zr) (hb : Below W.heap.size W W1) : Dv W1 p u v g1 g2 s1 s2 zq zr := ⟨h.1.keep hb, h.2.1.keep hb, h.2.2.1.keep hb, h.2.2.2⟩
theorem Bx4.far {W : World} {p : Nat} {g1 g2 : Bool} {s1 s2 : ByteArray} {a : Addr} (h : Bx4 W p g1 g2 s1 s2) (ha : p + 1 + 1 + 1 < a.block) (u : Value) : Bx4 (W.setCell a u) p g1 g2 s1 s2 :=
  ⟨⟨h.1.1.far (by omega) u, h.1.2.1.far (by omega) u, h.1.2.2.far (by omega) u⟩, h.2.far (by omega) u⟩
theorem Dv.setq {W : World} {p u v : Nat} {g1 g2 : Bool} {s1 s2 : ByteArray} {zq zr : Int} (h : Dv W p u v g1 g2 s1 s2 zq zr) (x : Int) : Dv ((W.setCell ⟨u, 0, none⟩ (.bool (sg x))).setCell ⟨u, 1, none⟩ (.string (mg x))) p u v g1 g2 s1 s2 x zr :=
  ⟨(h.1.far (by have := h.2.2.2; dsimp only; omega) _).far (by have := h.2.2.2; dsimp only; omega) _, h.2.1.set, (h.2.2.1.far (by have := h.2.2.2; dsimp only; omega) _).far (by have := h.2.2.2; dsimp only; omega) _, h.2.2.2⟩
theorem Dv.setr {W : World} {p u v : Nat} {g1 g2 : Bool} {s1 s2 : ByteArray} {zq zr : Int} (h : Dv W p u v g1 g2 s1 s2 zq zr) (x : Int) : Dv ((W.setCell ⟨v, 0, none⟩ (.bool (sg x))).setCell ⟨v, 1, none⟩ (.string (mg x))) p u v g1 g2 s1 s2 zq x :=
  ⟨(h.1.far (by have := h.2.2.2; dsimp only; omega) _).far (by have := h.2.2.2; dsimp only; omega) _, (h.2.1.far (by have := h.2.2.2; dsimp only; omega) _).far (by have := h.2.2.2; dsimp only; omega) _, h.2.2.1.set, h.2.2.2⟩
end Go.Proofs.YtigdjlhihhakmaaGreatDoor
