/- What the reference implementation's Root returns where it succeeds. Condition: at most 1000 bytes. -/
import Derived.Test.YtfcdekkoeeaolaaGreatDoorQ27
import Derived.Test.YtfcdekkoeeaolaaGreatDoorQ25

namespace Go.Proofs.YtfcdekkoeeaolaaGreatDoor
open Go.RowKit
set_option linter.unusedSimpArgs false
set_option linter.unusedVariables false

theorem Nb.drew {W : World} {p u : Nat} {g : Bool} {s : ByteArray} (h : Nb W p u g s) : Nb W.drew p u g s := h
/-- The state of the search: the number, the result's box, the root so far. -/
def Rs (w W : World) (p u : Nat) (s r : ByteArray) : Prop := Pw w W p false s ∧ Nb W p u false r
theorem Rs.keep {w W W1 : World} {p u : Nat} {s r : ByteArray} (h : Rs w W p u s r) (hb : Below W.heap.size W W1) : Rs w W1 p u s r := ⟨h.1.keep hb, h.2.keep hb⟩
theorem Rs.alloc {w W : World} {p u : Nat} {s r : ByteArray} (h : Rs w W p u s r) (o : Obj) : Rs w (W.alloc o) p u s r := h.keep (below1 _ _)
theorem Rs.drew {w W : World} {p u : Nat} {s r : ByteArray} (h : Rs w W p u s r) : Rs w W.drew p u s r := h.keep (Below.refl _ _).drew
theorem Rs.far {w W : World} {p u : Nat} {s r : ByteArray} {a : Addr} (h : Rs w W p u s r) (ha : u < a.block) (v : Value) : Rs w (W.setCell a v) p u s r := ⟨h.1.far (by have := h.2.2; omega) v, h.2.far (by omega) v⟩
theorem Rs.setu {w W : World} {p u : Nat} {s r : ByteArray} (h : Rs w W p u s r) (r' : ByteArray) : Rs w ((W.setCell ⟨u, 0, none⟩ (.bool false)).setCell ⟨u, 1, none⟩ (.string r')) p u s r' :=
  ⟨(h.1.far h.2.2 _).far h.2.2 _, h.2.set⟩
/-- And the number to be tried, in a box behind. -/
def Rt (w W : World) (p u v : Nat) (s r x : ByteArray) : Prop := Rs w W p u s r ∧ Box2 W v false x ∧ u < v
theorem Rt.keep {w W W1 : World} {p u v : Nat} {s r x : ByteArray} (h : Rt w W p u v s r x) (hb : Below W.heap.size W W1) : Rt w W1 p u v s r x := ⟨h.1.keep hb, h.2.1.keep hb, h.2.2⟩
theorem Rt.drew {w W : World} {p u v : Nat} {s r x : ByteArray} (h : Rt w W p u v s r x) : Rt w W.drew p u v s r x := h.keep (Below.refl _ _).drew
theorem Rt.new {w W : World} {p u : Nat} {s r x : ByteArray} {t : TypeId} (h : Rs w W p u s r) : Rt w (W.alloc (.cells #[.bool false, .string x] t)) p u W.heap.size s r x := ⟨h.alloc _, Box2.new _ _ _ _, World.block_lt_of_cell? W ⟨u, 0, none⟩ h.2.1.1⟩
theorem Rt.set {w W : World} {p u v : Nat} {s r x : ByteArray} (h : Rt w W p u v s r x) (x' : ByteArray) : Rt w ((W.setCell ⟨v, 0, none⟩ (.bool false)).setCell ⟨v, 1, none⟩ (.string x')) p u v s r x' := ⟨(h.1.far h.2.2 _).far h.2.2 _, h.2.1.set, h.2.2⟩

set_option maxRecDepth 100000 in
set_option maxHeartbeats 12800000 in
theorem rroot_any (g : Bool) (l : List UInt8) (z : Int) (m R : Nat) (w : World) (hl1 : l.length ≤ 1000) (hz : zv g ⟨l.toArray⟩ = z) (h0 : 0 ≤ z) (hm1 : 1 ≤ m) (hm : m ≤ 4096) (hR : IsRoot z.natAbs m R) :
    Calls Tryz.prog 19 #[.agg #[.bool g, .string ⟨l.toArray⟩], .int .i64 (m : Int)] w (GoodOut w (R : Int)) := by
  obtain ⟨N, hN⟩ : ∃ N : Nat, z = (N : Int) := ⟨z.natAbs, by omega⟩
  subst hN
  have hNl := bytes_len hz
  rw [Int.natAbs_natCast] at hR hNl
  have HR := Lib.hid hR
  have LN := Lib.hid (show (bytesOf N).length ≤ 1000 by omega)
  have Hl := Lib.hid hl1
  have Hz := Lib.hid hz
  have HM1 := Lib.hid hm1
  have HM := Lib.hid hm
  obtain ⟨nb, Hnb⟩ : ∃ n, Hid (nbits N = n) := ⟨_, Lib.hid rfl⟩
  have hnb8 : nb ≤ 8000 := by rw [← Hnb.out]; exact rnbits_len (L := 1000) LN.out
  obtain ⟨q0, hq0⟩ : ∃ q, nb / m = q := ⟨_, rfl⟩
  have hq8 : q0 ≤ 8000 := by rw [← hq0]; exact Nat.le_trans (Nat.div_le_self _ _) hnb8
  have d1 : (nb : Int).tdiv (m : Int) = (q0 : Int) := by rw [← hq0]; rfl
  have w1 : IntKind.i64.wrap (q0 : Int) = (q0 : Int) := IntWalk.i64_in _ (by omega)
  have hm0 : ¬ (m : Int) = 0 := by omega
  have hm00 : ((m : Int) == 0) = false := by rw [beq_eq_false_iff_ne]; omega
  have hd1 : ¬ (m : Int) < 1 := by omega
  have hd2 : ¬ 4096 < (m : Int) := by omega
  have HF := Lib.hid (show N < (0 + 2 ^ (q0 + 1)) ^ m from root_first hm1 (by rw [Hnb.out, hq0]))
  have HF0 := Lib.hid (show 0 ^ m ≤ N by rw [Nat.zero_pow (by omega)]; omega)
  have Hq8 := Lib.hid hq8
  have hnbm : nb * m ≤ 8000 * 4096 := Nat.mul_le_mul hnb8 hm
  clear hz hR hNl hl1 h0 hq0
  obtain ⟨W0, hW0⟩ : ∃ W0, W0 = (w.alloc (.cells #[.bool g, .string ⟨l.toArray⟩] 23)).alloc (.cells #[.bool false, .string ⟨#[]⟩] 23) := ⟨_, rfl⟩
  have K : Pw w W0 w.heap.size g ⟨l.toArray⟩ := by rw [hW0]; exact Pw.start w _ _ _
  have HW := Lib.hid hW0
  clear hW0
  go_enter Tryz.func19, Tryz.ntmps19
  go_upto_region 1 with fail
  rw [← HW.out]
  obtain ⟨⟨x1, x2, x3, x4⟩, ⟨r1, r2, r3, r4⟩, -⟩ := id K
  go_wp2_with fail
  refine (rcan_eq (by have := Hl.out; omega) Hz.out).mono ?_
  rintro e X ⟨rfl, bX⟩
  rw [(nat_int N).1]
  have K := K.keep bX
  have K2 : Pw w ((X.setCell ⟨w.heap.size, 0, none⟩ (.bool false)).setCell ⟨w.heap.size, 1, none⟩ (.string (mg (N : Int)))) w.heap.size false (mg (N : Int)) :=
    ⟨K.1.set, (K.2.1.far (by dsimp only; omega) _).far (by dsimp only; omega) _, by rw [World.size_setCell, World.size_setCell]; exact K.2.2.1, (K.2.2.2.1.setCell (Nat.le_refl _) _).setCell (Nat.le_refl _) _, Nat.le_refl _⟩
  obtain ⟨⟨x1, x2, x3, x4⟩, ⟨r1, r2, r3, r4⟩, -⟩ := id K
  clear bX
  go_upto_region 2 with fail
  generalize (X.setCell ⟨w.heap.size, 0, none⟩ (.bool false)).setCell ⟨w.heap.size, 1, none⟩ (.string (mg (N : Int))) = X2 at *
  clear K x1 x2 x3 x4 r1 r2 r3 r4
  obtain ⟨⟨x1, x2, x3, x4⟩, ⟨r1, r2, r3, r4⟩, -⟩ := id K2
  go_upto_region 5 with fail
  have S : Rs w (X2.alloc (.cells #[.bool false, .string ⟨#[]⟩] 23)) w.heap.size X2.heap.size (mg (N : Int)) (mg ((0 : Nat) : Int)) := by
    rw [show ((0 : Nat) : Int) = 0 from rfl, mg_zero9]
    exact ⟨K2.alloc _, Nb.new K2⟩
  generalize X2.alloc (.cells #[.bool false, .string ⟨#[]⟩] 23) = X3 at *
  generalize X2.heap.size = u at *
  clear K2 x1 x2 x3 x4 r1 r2 r3 r4 hd1 hd2 K HW
  obtain ⟨⟨⟨x1, x2, x3, x4⟩, ⟨r1, r2, r3, r4⟩, hp, -⟩, ⟨u1, u2, u3, u4⟩, hu⟩ := id S
  go_wp2_with fail
  refine (rbits_n (by have := LN.out; omega) (by rw [Hnb.out])).mono ?_
  rintro e X4 ⟨rfl, b4⟩
  have S := S.keep b4
  clear x1 x2 x3 x4 r1 r2 r3 r4 u1 u2 u3 u4 hp b4
  go_wp2_with fail
  have S0 := S
  clear S
  go_loopg [7] (q0 + 1) (fun q s7 wx => ∃ r : Nat, s7 = .int .i64 ((q : Int) - 1) ∧ Hid (q ≤ 8001) ∧ Hid (r ^ m ≤ N) ∧ Hid (N < (r + 2 ^ q) ^ m) ∧ Rs w wx w.heap.size u (mg (N : Int)) (mg (r : Int)))
  case atStart => exact ⟨0, by rw [show ((q0 + 1 : Nat) : Int) - 1 = (q0 : Int) by omega], by show _ ≤ _; have := Hq8.out; omega, HF0, HF, S0⟩
  case round =>
    clear S0 HF HF0 w1 d1
    obtain ⟨r, rfl, Hq, HA, HB, S⟩ := hrel
    obtain ⟨⟨⟨x1, x2, x3, x4⟩, ⟨r1, r2, r3, r4⟩, hp, B, -⟩, ⟨u1, u2, u3, u4⟩, hu⟩ := id S
    rcases gk with _ | j
    · have HRr := Lib.hid (show r = R from rroot_uniq HM1.out ⟨HA.out, by have := HB.out; rw [Nat.pow_zero] at this; exact this⟩ HR.out)
      have hneg : ¬ (0 : Int) ≤ -1 := by omega
      go_wp2_with fail
      exact bodyPost_ret (v := .tuple #[.agg #[.bool false, .string (mg (r : Int))], .int .i64 0]) (by simp [results, Tryz.results19, go_sem, r1, r2, r3, r4]) rfl ⟨by rw [HRr.out, (nat_int R).1], (B.setCell (by dsimp only; omega) _).setCell (by dsimp only; omega) _⟩
    · have hj : ((j + 1 : Nat) : Int) - 1 = (j : Int) := by omega
      rw [hj]
      clear hj
      have hge : (0 : Int) ≤ (j : Int) := by omega
      obtain ⟨P2, HP2⟩ : ∃ P2, Hid (2 ^ j = P2) := ⟨_, Lib.hid rfl⟩
      obtain ⟨x, HX⟩ : ∃ x, Hid (r + P2 = x) := ⟨_, Lib.hid rfl⟩
      have hrN : r ≤ N := rroot_le HM1.out HA.out
      have hj8 : j ≤ 8000 := by have := Hq.out; omega
      have Lr := Lib.hid (show (bytesOf r).length ≤ 1000 by have h1 := bytesOf_mono hrN; have := LN.out; omega)
      have Lx := Lib.hid (show (bytesOf x).length ≤ 1001 by rw [← HX.out, ← HP2.out]; exact bytes_2pow LN.out (by omega) hrN)
      have LP := Lib.hid (show (bytesOf P2).length ≤ 1001 by have h1 := bytesOf_mono (show P2 ≤ x by rw [← HX.out]; omega); have := Lx.out; omega)
      have Hx1 := Lib.hid (show 1 ≤ x by have h1 : 0 < 2 ^ j := Nat.pow_pos (by omega); rw [HP2.out] at h1; rw [← HX.out]; omega)
      obtain ⟨nx, Hnx⟩ : ∃ n : Nat, Hid (((nbits x : Nat) : Int) = (n : Int)) := ⟨nbits x, Lib.hid rfl⟩
      have hnx8 : nx ≤ 8 * 1001 := by have h1 := rnbits_len (L := 1001) Lx.out; have := Hnx.out; omega
      obtain ⟨T, HT⟩ : ∃ T, nx * m = T := ⟨_, rfl⟩
      have hTb : T ≤ 8 * 1001 * 4096 := by rw [← HT]; exact Nat.mul_le_mul hnx8 HM.out
      have wT : IntKind.i64.wrap ((nx : Int) * (m : Int)) = (T : Int) := by
        rw [show (nx : Int) * (m : Int) = ((nx * m : Nat) : Int) by rw [Int.natCast_mul], HT]
        exact IntWalk.i64_in _ (by omega)
      have hmm := HM.out
      have wD : IntKind.i64.wrap ((T : Int) - (m : Int)) = (T : Int) - (m : Int) := IntWalk.i64_in _ (by omega)
      have wj : IntKind.i64.wrap ((j : Int) - 1) = (j : Int) - 1 := IntWalk.i64_in _ (by omega)
      have Hnb2 := Lib.hid (show ((nbits N : Nat) : Int) = (nb : Int) by rw [Hnb.out])
      obtain ⟨t, Ht⟩ : ∃ t, Hid (decide (x ^ m ≤ N) = t) := ⟨_, Lib.hid rfl⟩
      have Hfar := Lib.hid (show ¬ (T : Int) - (m : Int) < (nb : Int) → t = false by
        intro h
        rw [← Ht.out]
        refine decide_eq_false ?_
        have h1 := root_far (x := x) (m := m) (N := N) (by rw [Hnb.out, show nbits x = nx by have := Hnx.out; omega, HT]; omega) HM1.out
        omega)
      have HT2 := Lib.hid (show t = true → x ^ m ≤ N ∧ N < (x + 2 ^ j) ^ m by
        intro h
        rw [← Ht.out] at h
        have h1 := root_up HB.out
        rw [HP2.out, HX.out] at h1
        exact ⟨of_decide_eq_true h, by rw [HP2.out]; exact h1⟩)
      have HT3 := Lib.hid (show t = false → N < (r + 2 ^ j) ^ m by
        intro h
        rw [← Ht.out] at h
        have h1 := of_decide_eq_false h
        rw [HP2.out, HX.out]
        omega)
      clear HT hmm hTb hnx8 hrN hnbm hnb8 hq8
      go_upto_region 8 with fail
      go_cut [8] (fun s8 wx => ∃ v : Nat, s8 = .pointer (some ⟨v, 0, none⟩) ∧ Rt w wx w.heap.size u v (mg (N : Int)) (mg (r : Int)) (mg (x : Int)))
      case first =>
        have KB := S.drew
        clear S wT wD wj
        go_region_held3 (fun W => W.cell? ⟨w.heap.size, 0, none⟩ = some (.bool false) ∧ W.cell? ⟨w.heap.size, 1, none⟩ = some (.string (mg (N : Int))) ∧ W.cell? ⟨u, 0, none⟩ = some (.bool false) ∧ W.cell? ⟨u, 1, none⟩ = some (.string (mg (r : Int)))) (first | (with_reducible exact ⟨KB.1.1.1, KB.1.1.2.1, KB.2.1.1, KB.2.1.2.1⟩) | (with_reducible exact ⟨(Rs.alloc KB _).1.1.1, (Rs.alloc KB _).1.1.2.1, (Rs.alloc KB _).2.1.1, (Rs.alloc KB _).2.1.2.1⟩) | (with_reducible exact ⟨(Rt.set KT _).1.1.1.1, (Rt.set KT _).1.1.1.2.1, (Rt.set KT _).1.2.1.1, (Rt.set KT _).1.2.1.2.1⟩) | go_keep | exact ⟨(Rt.set KT (mg (x : Int))).1.1.1.1, (Rt.set KT (mg (x : Int))).1.1.1.2.1, (Rt.set KT (mg (x : Int))).1.2.1.1, (Rt.set KT (mg (x : Int))).1.2.1.2.1⟩)
          (first
            | (go_at_call 81; refine (rpower_n (by omega) HP2.out).mono ?_; rintro e X ⟨rfl, bX⟩; (first | (with_reducible have KT1 := Rt.keep KT bX; have KB1 := Rs.keep KB bX; have KT := KT1; have KB := KB1) | (with_reducible have KB1 := Rs.keep KB bX; have KB := KB1) | (have KT := Rt.keep (Rt.new KB) bX; (try simp only [World.size_drew] at KT); have KB := KT.1)); (try obtain ⟨-, ⟨v1, v2, v3, v4⟩, huv⟩ := id KT); obtain ⟨⟨⟨x1, x2, x3, x4⟩, ⟨r1, r2, r3, r4⟩, hp, -⟩, ⟨u1, u2, u3, u4⟩, hu⟩ := id KB)
            | (go_at_call 10; refine (radd_n (by have := Lr.out; omega) (by have := LP.out; omega) HX.out).mono ?_; rintro e X ⟨rfl, bX⟩; (first | (with_reducible have KT1 := Rt.keep KT bX; have KB1 := Rs.keep KB bX; have KT := KT1; have KB := KB1) | (with_reducible have KB1 := Rs.keep KB bX; have KB := KB1) | (have KT := Rt.keep (Rt.new KB) bX; (try simp only [World.size_drew] at KT); have KB := KT.1)); (try obtain ⟨-, ⟨v1, v2, v3, v4⟩, huv⟩ := id KT); obtain ⟨⟨⟨x1, x2, x3, x4⟩, ⟨r1, r2, r3, r4⟩, hp, -⟩, ⟨u1, u2, u3, u4⟩, hu⟩ := id KB))
        all_goals go_wp2_with fail
        all_goals go_meet
        all_goals refine ⟨_, rfl, ?_⟩
        all_goals first
          | exact Rt.new KB
          | exact Rt.set KT _
          | exact Rt.set (Rt.keep KT (below1 _ _)) _
      case rest =>
        obtain ⟨v, rfl, KT⟩ := hcut
        have KB := KT.1
        clear S x1 x2 x3 x4 r1 r2 r3 r4 u1 u2 u3 u4 hp hu B
        obtain ⟨-, ⟨v1, v2, v3, v4⟩, huv⟩ := id KT
        obtain ⟨⟨⟨x1, x2, x3, x4⟩, ⟨r1, r2, r3, r4⟩, hp, -⟩, ⟨u1, u2, u3, u4⟩, hu⟩ := id KB
        go_upto_region 9 with fail
        go_cut [49] (fun s49 wx => s49 = .bool t ∧ Rt w wx w.heap.size u v (mg (N : Int)) (mg (r : Int)) (mg (x : Int)))
        case first =>
          have KT := KT.drew
          have KB := KT.1
          rcases (show (T : Int) - (m : Int) < (nb : Int) ∨ (¬ (T : Int) - (m : Int) < (nb : Int)) by omega) with hcd | hcd
          · have hc1 : decide ((T : Int) - (m : Int) < (nb : Int)) = true := decide_eq_true hcd
            clear hcd
            go_region_held3 (fun W => W.cell? ⟨w.heap.size, 0, none⟩ = some (.bool false) ∧ W.cell? ⟨w.heap.size, 1, none⟩ = some (.string (mg (N : Int))) ∧ W.cell? ⟨v, 0, none⟩ = some (.bool false) ∧ W.cell? ⟨v, 1, none⟩ = some (.string (mg (x : Int)))) (first | (with_reducible exact ⟨KT.1.1.1.1, KT.1.1.1.2.1, KT.2.1.1, KT.2.1.2.1⟩) | exact ⟨KT.1.1.1.1, KT.1.1.1.2.1, KT.2.1.1, KT.2.1.2.1⟩)
              (first
              | (go_at_call 75; (first | (with_reducible refine (rbits_n (by have := Lx.out; omega) Hnx.out).mono ?_) | (with_reducible refine (rbits_n (by have := LN.out; omega) Hnb2.out).mono ?_)); rintro e X ⟨rfl, bX⟩; have KT1 := Rt.keep KT bX; have KT := KT1; have KB := KT1.1; obtain ⟨-, ⟨v1, v2, v3, v4⟩, huv⟩ := id KT; obtain ⟨⟨⟨x1, x2, x3, x4⟩, ⟨r1, r2, r3, r4⟩, hp, -⟩, ⟨u1, u2, u3, u4⟩, hu⟩ := id KB)
              | (go_at_call 82; (with_reducible refine (ratmost_any x N m _ Hx1.out (by have := Lx.out; omega) (by have := LN.out; omega) HM.out HM1.out t Ht.out).mono ?_); rintro e X ⟨rfl, bX⟩; have KT1 := Rt.keep KT bX; have KT := KT1; have KB := KT1.1; obtain ⟨-, ⟨v1, v2, v3, v4⟩, huv⟩ := id KT; obtain ⟨⟨⟨x1, x2, x3, x4⟩, ⟨r1, r2, r3, r4⟩, hp, -⟩, ⟨u1, u2, u3, u4⟩, hu⟩ := id KB))
            all_goals go_wp2_with fail
            all_goals go_meet
            all_goals exact ⟨rfl, KT⟩
          · have ht := Hfar.out hcd
            clear Hfar HT2 HT3 Ht
            subst ht
            have hcf := decide_eq_false hcd
            clear hcd
            clear x1 x2 x3 x4 r1 r2 r3 r4 u1 u2 u3 u4 hp hu v1 v2 v3 v4 huv
            refine wp_region_held_drew (S := (fun W => W.cell? ⟨w.heap.size, 0, none⟩ = some (.bool false) ∧ W.cell? ⟨w.heap.size, 1, none⟩ = some (.string (mg (N : Int))) ∧ W.cell? ⟨v, 0, none⟩ = some (.bool false) ∧ W.cell? ⟨v, 1, none⟩ = some (.string (mg (x : Int))))) (by kernel_rfl) ?_ (fun hHeld => ?_)
            · exact ⟨KT.1.1.1.1, KT.1.1.1.2.1, KT.2.1.1, KT.2.1.2.1⟩
            refine wpAnyH_take (i := 0) (oi := { dst := some 35, op := Go.Op.load 23 (Go.Operand.tmp 8), type := 23, pos := "ref.go:323", after := #[], guard := none }) (v := ?_) rfl (by kernel_rfl) (by kernel_rfl) (by kernel_rfl) (fun _ _ _ h => h) (Or.inl ⟨by rfl, ?_⟩) (by assumption) ?_
            rotate_left
            · intro w hSw
              (try dsimp only at hSw)
              go_simp
              all_goals with_reducible rfl
            (try simp only [Act.put, List.setIfInBounds_toArray, List.set_cons_zero, List.set_cons_succ])
            refine wpAnyH_take (i := 2) (oi := { dst := some 37, op := Go.Op.move (Go.Operand.tmp 1), type := 3, pos := "ref.go:323", after := #[], guard := none }) (v := ?_) rfl (by kernel_rfl) (by kernel_rfl) (by kernel_rfl) (fun _ _ _ h => h) (Or.inl ⟨by rfl, ?_⟩) (by assumption) ?_
            rotate_left
            · intro w hSw
              (try dsimp only at hSw)
              go_simp
              all_goals with_reducible rfl
            (try simp only [Act.put, List.setIfInBounds_toArray, List.set_cons_zero, List.set_cons_succ])
            refine wpAnyH_take (i := 4) (oi := { dst := some 39, op := Go.Op.move (Go.Operand.tmp 1), type := 3, pos := "ref.go:323", after := #[], guard := none }) (v := ?_) rfl (by kernel_rfl) (by kernel_rfl) (by kernel_rfl) (fun _ _ _ h => h) (Or.inl ⟨by rfl, ?_⟩) (by assumption) ?_
            rotate_left
            · intro w hSw
              (try dsimp only at hSw)
              go_simp
              all_goals with_reducible rfl
            (try simp only [Act.put, List.setIfInBounds_toArray, List.set_cons_zero, List.set_cons_succ])
            refine wpAnyH_take (i := 6) (oi := { dst := some 41, op := Go.Op.load 23 (Go.Operand.tmp 2), type := 23, pos := "ref.go:323", after := #[], guard := none }) (v := ?_) rfl (by kernel_rfl) (by kernel_rfl) (by kernel_rfl) (fun _ _ _ h => h) (Or.inl ⟨by rfl, ?_⟩) (by assumption) ?_
            rotate_left
            · intro w hSw
              (try dsimp only at hSw)
              go_simp
              all_goals with_reducible rfl
            (try simp only [Act.put, List.setIfInBounds_toArray, List.set_cons_zero, List.set_cons_succ])
            refine wpAnyH_ready (rs := [1]) (by kernel_rfl) (by simp) ?_
            refine AllReadyH.cons (o := { dst := some 36, op := Go.Op.call { callee := Go.Callee.value (Go.Operand.func 75), args := #[Go.Operand.tmp 35], argTypes := #[23] }, type := 3, pos := "ref.go:323", after := #[{ on := 0, ground := Go.Ground.data }], guard := none }) rfl (fun K hK => ?_) AllReadyH.nil
            go_simp
            refine (rbits_n (by have := Lx.out; omega) Hnx.out).mono ?_; rintro e X ⟨rfl, bX⟩; have KT := KT.keep bX; clear bX
            go_wp2_with fail
            refine hK.out _ _ ?_ (fun hHeld => ?_)
            · (try dsimp only)
              exact ⟨KT.1.1.1.1, KT.1.1.1.2.1, KT.2.1.1, KT.2.1.2.1⟩
            clear hK K
            (try simp only [Act.put, List.setIfInBounds_toArray, List.set_cons_zero, List.set_cons_succ])
            refine wpAnyH_take (i := 3) (oi := { dst := some 38, op := Go.Op.binOp Go.BinOp.mul 3 (Go.Operand.tmp 36) (Go.Operand.tmp 37) 3, type := 3, pos := "ref.go:323", after := #[{ on := 1, ground := Go.Ground.data }, { on := 2, ground := Go.Ground.data }], guard := none }) (v := ?_) rfl (by kernel_rfl) (by kernel_rfl) (by kernel_rfl) (fun _ _ _ h => h) (Or.inl ⟨by rfl, ?_⟩) (by assumption) ?_
            rotate_left
            · intro w hSw
              (try dsimp only at hSw)
              go_simp
              all_goals with_reducible rfl
            (try simp only [Act.put, List.setIfInBounds_toArray, List.set_cons_zero, List.set_cons_succ])
            refine wpAnyH_take (i := 5) (oi := { dst := some 40, op := Go.Op.binOp Go.BinOp.sub 3 (Go.Operand.tmp 38) (Go.Operand.tmp 39) 3, type := 3, pos := "ref.go:323", after := #[{ on := 3, ground := Go.Ground.data }, { on := 4, ground := Go.Ground.data }], guard := none }) (v := ?_) rfl (by kernel_rfl) (by kernel_rfl) (by kernel_rfl) (fun _ _ _ h => h) (Or.inl ⟨by rfl, ?_⟩) (by assumption) ?_
            rotate_left
            · intro w hSw
              (try dsimp only at hSw)
              go_simp
              all_goals with_reducible rfl
            (try simp only [Act.put, List.setIfInBounds_toArray, List.set_cons_zero, List.set_cons_succ])
            refine wpAnyH_ready (rs := [7]) (by kernel_rfl) (by simp) ?_
            refine AllReadyH.cons (o := { dst := some 42, op := Go.Op.call { callee := Go.Callee.value (Go.Operand.func 75), args := #[Go.Operand.tmp 41], argTypes := #[23] }, type := 3, pos := "ref.go:323", after := #[{ on := 6, ground := Go.Ground.data }, { on := 1, ground := Go.Ground.chain }], guard := none }) rfl (fun K hK => ?_) AllReadyH.nil
            go_simp
            refine (rbits_n (by have := LN.out; omega) Hnb2.out).mono ?_; rintro e X ⟨rfl, bX⟩; have KT := KT.keep bX; clear bX
            go_wp2_with fail
            refine hK.out _ _ ?_ (fun hHeld => ?_)
            · (try dsimp only)
              exact ⟨KT.1.1.1.1, KT.1.1.1.2.1, KT.2.1.1, KT.2.1.2.1⟩
            clear hK K
            (try simp only [Act.put, List.setIfInBounds_toArray, List.set_cons_zero, List.set_cons_succ])
            refine wpAnyH_take (i := 8) (oi := { dst := some 43, op := Go.Op.binOp Go.BinOp.lss 3 (Go.Operand.tmp 40) (Go.Operand.tmp 42) 3, type := 4, pos := "ref.go:323", after := #[{ on := 5, ground := Go.Ground.data }, { on := 7, ground := Go.Ground.data }], guard := none }) (v := Go.Value.bool false) rfl (by kernel_rfl) (by kernel_rfl) (by kernel_rfl) (fun _ _ _ h => h) (Or.inl ⟨by rfl, ?_⟩) (by assumption) ?_
            · intro w hSw
              (try dsimp only at hSw)
              go_simp
              all_goals (try rw [hcf])
              all_goals with_reducible rfl
            (try simp only [Act.put, List.setIfInBounds_toArray, List.set_cons_zero, List.set_cons_succ])
            refine wpAnyH_take (i := 9) (oi := { dst := some 44, op := Go.Op.move (Go.Operand.tmp 43), type := 4, pos := "ref.go:323", after := #[{ on := 8, ground := Go.Ground.data }, { on := 7, ground := Go.Ground.chain }], guard := none }) (v := ?_) rfl (by kernel_rfl) (by kernel_rfl) (by kernel_rfl) (fun _ _ _ h => h) (Or.inl ⟨by rfl, ?_⟩) (by assumption) ?_
            rotate_left
            · intro w hSw
              (try dsimp only at hSw)
              go_simp
              all_goals with_reducible rfl
            (try simp only [Act.put, List.setIfInBounds_toArray, List.set_cons_zero, List.set_cons_succ])
            refine wpAnyH_take (i := 10) (oi := { dst := some 45, op := Go.Op.load 23 (Go.Operand.tmp 8), type := 23, pos := "ref.go:323", after := #[{ on := 9, ground := Go.Ground.guard }], guard := some (9, true) }) (v := undef) rfl (by kernel_rfl) (by kernel_rfl) (by kernel_rfl) (fun _ _ _ h => h) (Or.inr ⟨by rfl, rfl⟩) (by assumption) ?_
            (try simp only [Act.put, List.setIfInBounds_toArray, List.set_cons_zero, List.set_cons_succ])
            refine wpAnyH_take (i := 11) (oi := { dst := some 46, op := Go.Op.move (Go.Operand.tmp 1), type := 3, pos := "ref.go:323", after := #[{ on := 9, ground := Go.Ground.guard }], guard := some (9, true) }) (v := undef) rfl (by kernel_rfl) (by kernel_rfl) (by kernel_rfl) (fun _ _ _ h => h) (Or.inr ⟨by rfl, rfl⟩) (by assumption) ?_
            (try simp only [Act.put, List.setIfInBounds_toArray, List.set_cons_zero, List.set_cons_succ])
            refine wpAnyH_take (i := 12) (oi := { dst := some 47, op := Go.Op.load 23 (Go.Operand.tmp 2), type := 23, pos := "ref.go:323", after := #[{ on := 9, ground := Go.Ground.guard }], guard := some (9, true) }) (v := undef) rfl (by kernel_rfl) (by kernel_rfl) (by kernel_rfl) (fun _ _ _ h => h) (Or.inr ⟨by rfl, rfl⟩) (by assumption) ?_
            (try simp only [Act.put, List.setIfInBounds_toArray, List.set_cons_zero, List.set_cons_succ])
            refine wpAnyH_take (i := 13) (oi := { dst := some 48, op := Go.Op.call { callee := Go.Callee.value (Go.Operand.func 82), args := #[Go.Operand.tmp 45, Go.Operand.tmp 46, Go.Operand.tmp 47], argTypes := #[23, 3, 23] }, type := 4, pos := "ref.go:323", after := #[{ on := 10, ground := Go.Ground.data }, { on := 11, ground := Go.Ground.data }, { on := 12, ground := Go.Ground.data }, { on := 9, ground := Go.Ground.chain }, { on := 9, ground := Go.Ground.guard }], guard := some (9, true) }) (v := undef) rfl (by kernel_rfl) (by kernel_rfl) (by kernel_rfl) (fun _ _ _ h => h) (Or.inr ⟨by rfl, rfl⟩) (by assumption) ?_
            (try simp only [Act.put, List.setIfInBounds_toArray, List.set_cons_zero, List.set_cons_succ])
            refine wpAnyH_take (i := 14) (oi := { dst := some 49, op := Go.Op.pick (Go.Operand.tmp 44) (Go.Operand.tmp 48) (Go.Operand.const (Go.Value.bool false)), type := 4, pos := "ref.go:323", after := #[{ on := 9, ground := Go.Ground.data }, { on := 13, ground := Go.Ground.data }], guard := none }) (v := ?_) rfl (by kernel_rfl) (by kernel_rfl) (by kernel_rfl) (fun _ _ _ h => h) (Or.inl ⟨by rfl, ?_⟩) (by assumption) ?_
            rotate_left
            · intro w hSw
              (try dsimp only at hSw)
              go_simp
              all_goals with_reducible rfl
            (try simp only [Act.put, List.setIfInBounds_toArray, List.set_cons_zero, List.set_cons_succ])
            refine wpAnyH_done (by kernel_rfl) ?_ _
            go_wp2_with fail
            go_meet
            exact ⟨rfl, KT⟩
        case rest =>
          obtain ⟨rfl, KT⟩ := hcut
          have KB := KT.1
          clear x1 x2 x3 x4 r1 r2 r3 r4 u1 u2 u3 u4 hp hu v1 v2 v3 v4 huv
          obtain ⟨-, ⟨v1, v2, v3, v4⟩, huv⟩ := id KT
          obtain ⟨⟨⟨x1, x2, x3, x4⟩, ⟨r1, r2, r3, r4⟩, hp, -⟩, ⟨u1, u2, u3, u4⟩, hu⟩ := id KB
          cases t with
          | true =>
            have HV := Lib.hid (HT2.out rfl)
            clear HT2 HT3 Hfar
            go_wp2_with fail
            go_roundg j
            case measure => omega
            case rel => exact ⟨x, rfl, by show _ ≤ _; omega, HV.out.1, HV.out.2, KB.setu _⟩
          | false =>
            have HV := Lib.hid (HT3.out rfl)
            clear HT2 HT3 Hfar
            go_wp2_with fail
            go_roundg j
            case measure => omega
            case rel => exact ⟨r, rfl, by show _ ≤ _; omega, HA, HV, KB⟩
end Go.Proofs.YtfcdekkoeeaolaaGreatDoor
