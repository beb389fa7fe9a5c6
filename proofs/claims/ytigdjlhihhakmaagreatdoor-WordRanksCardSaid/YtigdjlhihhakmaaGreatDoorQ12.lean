/- What integer.Of returns: the integer. No condition: any int. What word.Next and, for words of at most 15 letters, word.Rank return. Condition: a string's length. What word.rank (words of at most 15 letters) and word.Rank return. Condition: a string's length. -/
import Derived.Test.YtigdjlhihhakmaaGreatDoorQ09
import Derived.Test.YtigdjlhihhakmaaGreatDoorQ11
import Derived.Lib.ConvBytes

namespace Go.Proofs.YtigdjlhihhakmaaGreatDoor
open Go.RowKit

def two (m : Nat) : Nat → Nat := fun i => if i = 0 then m % 4294967296 else if i = 1 then m / 4294967296 else 0
theorem two_val (m : Nat) : val (two m) 2 = m := by simp [val, two]; omega
theorem two_dig (m : Nat) (h : m < 18446744073709551616) : Dig (two m) 2 := fun i hi => by
  rcases (show i = 0 ∨ i = 1 by omega) with rfl | rfl <;> simp [two] <;> omega

theorem two_rd (w : World) (o : Obj) (t : TypeId) (d0 d1 : Int) (m : Nat) (h0 : d0 = ((m % 4294967296 : Nat) : Int)) (h1 : d1 = ((m / 4294967296 : Nat) : Int)) :
    Rd ((w.alloc o).alloc (.cells #[.int .u32 d0, .int .u32 d1] t)) (some ⟨w.heap.size + 1, 0, none⟩) 2 (two m) := by
  refine ⟨w.heap.size + 1, 0, fun _ => rfl, fun i hi => ?_⟩
  subst h0 h1
  rcases (show i = 0 ∨ i = 1 by omega) with rfl | rfl <;> simp [go_sem, two]
theorem u64_negwrap (z : Int) (h0 : -9223372036854775808 ≤ z) (hz : z < 0) : IntKind.u64.wrap (-IntKind.u64.wrap z) = ((z.natAbs : Nat) : Int) := by
  rw [IntKind.wrap_u64, IntKind.wrap_u64]
  omega

set_option maxRecDepth 100000 in
set_option maxHeartbeats 800000 in
theorem iof_any (z : Int) (w : World) (h0 : -9223372036854775808 ≤ z) (h1 : z ≤ 9223372036854775807) :
    Calls Tryz.prog 14 #[.int .i64 z] w (IntOut w z) := by
  have hm : z.natAbs < 18446744073709551616 := by omega
  have Hm : Hid (z.natAbs < 18446744073709551616) := hm
  have hr := (ResCell.new w 23)
  have hb := below1 w (.cells #[.bool false, .string ⟨#[]⟩] 23)
  have dg2 := two_dig z.natAbs hm
  clear hm
  by_cases hz : z < 0
  · have hw := u64_negwrap z h0 hz
    have Hw : Hid (IntKind.u64.wrap (-IntKind.u64.wrap z) = ((z.natAbs : Nat) : Int)) := hw
    have e1 : IntKind.u64.wrap (-IntKind.u64.wrap z) % 4294967296 = ((z.natAbs % 4294967296 : Nat) : Int) := by rw [hw, Int.natCast_emod]; rfl
    have e2 : IntKind.u64.wrap (-IntKind.u64.wrap z) / 4294967296 % 4294967296 = ((z.natAbs / 4294967296 : Nat) : Int) := by
      rw [hw]; have := Hm.out; omega
    have hrd := two_rd w (.cells #[.bool false, .string ⟨#[]⟩] 23) 70 _ _ z.natAbs e1 e2
    have hS : Hid (z = if true = true then -(z.natAbs : Int) else (z.natAbs : Int)) := by show z = _; rw [if_pos rfl]; omega
    clear hw e1 e2
    go_enter Tryz.func14, Tryz.ntmps14
    go_wp2_with fail
    refine (trim_any _ 2 2 (two z.natAbs) _ (Nat.le_refl _) (by omega) hrd).mono ?_
    rintro e W ⟨rfl, rfl⟩
    obtain ⟨A3, n3, c3, he, hi, hbb⟩ := nat_out hrd (Below.refl _ _) dg2 (by omega) (two_val z.natAbs)
    injection he with he
    injection he with x1 x2 x3
    subst x1 x2 x3
    go_wp2_with fail
    refine (signed_any true _ _ _ z.natAbs _ hi (by have := tln_le (two z.natAbs) 2; omega)).mono ?_
    rintro e W4 ⟨rfl, b4⟩
    rw [ivN_eq true _ z hS.out]
    have hb2 := hb.alloc (by rw [World.size_alloc]; omega) (.cells #[.int .u32 (IntKind.u64.wrap (-IntKind.u64.wrap z) % 4294967296), .int .u32 (IntKind.u64.wrap (-IntKind.u64.wrap z) / 4294967296 % 4294967296)] 70)
    obtain ⟨r1, r2, r3, r4⟩ := (hr.keep (below1 _ _)).keep b4
    go_wp2
    exact bodyPost_ret (v := .agg #[.bool (sg z), .string (mg z)]) (by simp [results, Tryz.results14, go_sem, r1, r2]) rfl ⟨rfl, below_more2 hb2 (Nat.le_refl _) b4 (Nat.le_refl _) (Nat.le_refl _)⟩
  · have e1 : z % 4294967296 = ((z.natAbs % 4294967296 : Nat) : Int) := by omega
    have e2 : z / 4294967296 = ((z.natAbs / 4294967296 : Nat) : Int) := by omega
    have hrd := two_rd w (.cells #[.bool false, .string ⟨#[]⟩] 23) 70 _ _ z.natAbs e1 e2
    have hS : Hid (z = if false = true then -(z.natAbs : Int) else (z.natAbs : Int)) := by show z = _; rw [if_neg (by simp)]; omega
    clear e1 e2
    go_enter Tryz.func14, Tryz.ntmps14
    go_wp2_with fail
    refine (trim_any _ 2 2 (two z.natAbs) _ (Nat.le_refl _) (by omega) hrd).mono ?_
    rintro e W ⟨rfl, rfl⟩
    obtain ⟨A3, n3, c3, he, hi, hbb⟩ := nat_out hrd (Below.refl _ _) dg2 (by omega) (two_val z.natAbs)
    injection he with he
    injection he with x1 x2 x3
    subst x1 x2 x3
    go_wp2_with fail
    refine (signed_any false _ _ _ z.natAbs _ hi (by have := tln_le (two z.natAbs) 2; omega)).mono ?_
    rintro e W4 ⟨rfl, b4⟩
    rw [ivN_eq false _ z hS.out]
    have hb2 := hb.alloc (by rw [World.size_alloc]; omega) (.cells #[.int .u32 (z % 4294967296), .int .u32 (z / 4294967296)] 70)
    obtain ⟨r1, r2, r3, r4⟩ := (hr.keep (below1 _ _)).keep b4
    go_wp2
    exact bodyPost_ret (v := .agg #[.bool (sg z), .string (mg z)]) (by simp [results, Tryz.results14, go_sem, r1, r2]) rfl ⟨rfl, below_more2 hb2 (Nat.le_refl _) b4 (Nat.le_refl _) (Nat.le_refl _)⟩
end Go.Proofs.YtigdjlhihhakmaaGreatDoor

namespace Go.Proofs.YtigdjlhihhakmaaGreatDoor
open Go.RowKit

/-- The next word, or the error. -/
def nextW (q : Int) (l : List UInt8) : List UInt8 × Int :=
  if chk q l = 0 then (match nxt q.toNat l with | some v => (v, 0) | none => if l.length = 65536 then ([], 4) else (List.replicate (l.length + 1) 48, 0)) else ([], chk q l)
def TxOut (w : World) (r : List UInt8 × Int) (e : Ending) (w' : World) : Prop := e = .returned (.tuple #[.string ⟨r.1.toArray⟩, .int .i64 r.2]) ∧ Below w.heap.size w w'
theorem chk_zero {q : Int} {l : List UInt8} (h : chk q l = 0) : ∃ m : Nat, q = (m : Int) ∧ 1 ≤ m ∧ m ≤ 16 ∧ l.length ≤ 65536 ∧ Wof m l := by
  unfold chk at h
  split at h
  · next h1 =>
    split at h
    · next h2 =>
      split at h
      · next h3 => exact ⟨q.toNat, by omega, by omega, by omega, h2, h3⟩
      · cases h
    · cases h
  · cases h
theorem chk_of {m : Nat} {l : List UInt8} (h1 : 1 ≤ m) (h2 : m ≤ 16) (h3 : l.length ≤ 65536) (h4 : Wof m l) : chk (m : Int) l = 0 := by
  unfold chk
  rw [if_pos ⟨by omega, by omega⟩, if_pos h3, Int.toNat_natCast, if_pos h4]
theorem nextW_some {m : Nat} {l v : List UInt8} (h0 : chk (m : Int) l = 0) (h : nxt m l = some v) : nextW (m : Int) l = (v, 0) := by unfold nextW; rw [if_pos h0, Int.toNat_natCast, h]
theorem nextW_none {m : Nat} {l : List UInt8} (h0 : chk (m : Int) l = 0) (h : nxt m l = none) : nextW (m : Int) l = if l.length = 65536 then ([], 4) else (List.replicate (l.length + 1) 48, 0) := by unfold nextW; rw [if_pos h0, Int.toNat_natCast, h]
set_option maxRecDepth 100000 in
set_option maxHeartbeats 1600000 in
theorem next_any (q : Int) (l : List UInt8) (w : World) (hl : l.length ≤ 9223372036854775807) :
    Calls Tryz.prog 15 #[.int .i64 q, .string ⟨l.toArray⟩] w (TxOut w (nextW q l)) := by
  by_cases h0 : chk q l = 0
  · obtain ⟨m, rfl, m1, m2, hl2, hW⟩ := chk_zero h0
    have H0 := Lib.hid h0
    have HW := Lib.hid hW
    have HS := Lib.hid (successor_any m l)
    obtain ⟨r, Hr⟩ : ∃ r, Hid (nxt m l = r) := ⟨_, Lib.hid rfl⟩
    clear h0 hW
    cases r with
    | some v =>
      have HX := Lib.hid (nextW_some H0.out Hr.out)
      go_enter Tryz.func15, Tryz.ntmps15
      go_wp2_with (first | (go_at_call 16; (with_reducible refine (check_any _ l _ hl).mono ?_); rintro e W1 ⟨rfl, hb⟩; (rw [H0.out])) | (go_at_call 40; (with_reducible refine (HS.out _ m1 m2 hl2 HW.out).mono ?_); rintro e W2 ⟨rfl, hb2⟩; (rw [Hr.out]); (dsimp only [Option.getD, Option.isSome])))
      exact bodyPost_ret (v := .tuple #[.string ⟨v.toArray⟩, .int .i64 0]) (by simp [results, Tryz.results15, go_sem]) rfl ⟨by rw [HX.out], below_more hb (Nat.le_refl _) hb2⟩
    | none =>
      have HX := Lib.hid (nextW_none H0.out Hr.out)
      by_cases h5 : l.length = 65536
      · have h6 : (l.length : Int) = 65536 := by omega
        have HX2 := Lib.hid (show nextW m l = ([], 4) by rw [HX.out]; exact if_pos h5)
        clear h5
        go_enter Tryz.func15, Tryz.ntmps15
        go_wp2_with (first | (go_at_call 16; (with_reducible refine (check_any _ l _ hl).mono ?_); rintro e W1 ⟨rfl, hb⟩; (rw [H0.out])) | (go_at_call 40; (with_reducible refine (HS.out _ m1 m2 hl2 HW.out).mono ?_); rintro e W2 ⟨rfl, hb2⟩; (rw [Hr.out]); (dsimp only [Option.getD, Option.isSome])))
        exact bodyPost_ret (v := .tuple #[.string ⟨#[]⟩, .int .i64 4]) (by simp [results, Tryz.results15, go_sem]) rfl ⟨by rw [HX2.out], below_more hb (Nat.le_refl _) hb2⟩
      · have h6 : ((l.length : Int) == 65536) = false := by rw [beq_eq_false_iff_ne]; omega
        have HX2 := Lib.hid (show nextW m l = (List.replicate (l.length + 1) 48, 0) by rw [HX.out]; exact if_neg h5)
        have hL : ∀ W, Calls Tryz.prog 39 #[.int .i64 ((l.length : Int) + 1)] W fun e w' => e = .returned (.string ⟨(List.replicate (l.length + 1) 48).toArray⟩) ∧ Below W.heap.size W w' := fun W => least_any (l.length + 1) W (by omega)
        have HL := Lib.hid hL
        clear hL
        obtain ⟨Z, hZ⟩ : ∃ Z, List.replicate (l.length + 1) (48 : UInt8) = Z := ⟨_, rfl⟩
        rw [hZ] at HX2
        simp only [hZ] at HL
        clear hZ
        clear h5
        go_enter Tryz.func15, Tryz.ntmps15
        go_wp2_with (first | (go_at_call 16; (with_reducible refine (check_any _ l _ hl).mono ?_); rintro e W1 ⟨rfl, hb⟩; (rw [H0.out])) | (go_at_call 40; (with_reducible refine (HS.out _ m1 m2 hl2 HW.out).mono ?_); rintro e W2 ⟨rfl, hb2⟩; (rw [Hr.out]); (dsimp only [Option.getD, Option.isSome])) | (go_at_call 39; (with_reducible refine (HL.out _).mono ?_); rintro e W3 ⟨rfl, hb3⟩))
        exact bodyPost_ret (v := .tuple #[.string ⟨Z.toArray⟩, .int .i64 0]) (by simp [results, Tryz.results15, go_sem]) rfl ⟨by rw [HX2.out], below_more (below_more hb (Nat.le_refl _) hb2) (Nat.le_refl _) hb3⟩
  · obtain ⟨c, hc⟩ : ∃ c, chk q l = c := ⟨_, rfl⟩
    have HX := Lib.hid (show nextW q l = ([], c) by unfold nextW; rw [if_neg h0, hc])
    have HC := Lib.hid hc
    rw [hc] at h0
    have h1 : (c == 0) = false := by rw [beq_eq_false_iff_ne]; exact h0
    clear hc h0
    go_enter Tryz.func15, Tryz.ntmps15
    go_wp2_with (go_at_call 16; (with_reducible refine (check_any _ l _ hl).mono ?_); rintro e W1 ⟨rfl, hb⟩; (rw [HC.out]))
    exact bodyPost_ret (v := .tuple #[.string ⟨#[]⟩, .int .i64 c]) (by simp [results, Tryz.results15, go_sem]) rfl ⟨by rw [HX.out], hb⟩

/-! A word's rank. -/
theorem bytes_below (w : World) (e : TypeId) (s : ByteArray) : Below w.heap.size w (Lib.bytesWorld w e s) :=
  ⟨rfl, rfl, rfl, by rw [Lib.bytesWorld_size]; omega, fun k hk => Lib.bytesWorld_at_old w e s k hk⟩
theorem pow15 {q n : Nat} (q2 : q ≤ 16) (hn : n ≤ 15) : q ^ n ≤ 1152921504606846976 :=
  Nat.le_trans (Nat.pow_le_pow_left q2 n) (Nat.le_trans (Nat.pow_le_pow_right (by omega) hn) (by decide))
theorem Wof.take {q : Nat} {l : List UInt8} (h : Wof q l) (n : Nat) : Wof q (l.take n) := fun c hc => h c (List.mem_of_mem_take hc)
set_option maxRecDepth 100000 in
set_option maxHeartbeats 1600000 in
theorem shortRank_any (q : Nat) (l : List UInt8) (w : World) (q1 : 1 ≤ q) (q2 : q ≤ 16) (hl : l.length ≤ 15) (hW : Wof q l) :
    Calls Tryz.prog 55 #[.int .i64 (q : Int), .string ⟨l.toArray⟩] w fun e w' => e = .returned (.int .i64 (rk q l : Int)) ∧ Below w.heap.size w w' := by
  have HW := Lib.hid hW
  clear hW
  have hcv := fun W => Lib.run_convert_string_bytes (P := Tryz.prog) W 9 56 5 ⟨l.toArray⟩ Tryz.underlying9 Tryz.underlying56 Tryz.underlying5
  go_enter Tryz.func55, Tryz.ntmps55
  go_wp2_with fail
  have hb0 := bytes_below w 5 ⟨l.toArray⟩
  have hc0 : ∀ j c, l[j]? = some c → (Lib.bytesWorld w 5 ⟨l.toArray⟩).cell? ⟨w.heap.size, j, none⟩ = some (.int .u8 (c.toNat : Int)) := fun j c hj => by
    have hjl : j < l.length := by
      rcases Nat.lt_or_ge j l.length with h | h
      · exact h
      · rw [List.getElem?_eq_none h] at hj; cases hj
    rw [Lib.bytesWorld_cell _ _ _ _ hjl]
    have : (⟨l.toArray⟩ : ByteArray).data.toList.getD j 0 = c := by show l.getD j 0 = c; rw [List.getD_eq_getElem?_getD, hj]; rfl
    rw [this]
  have HC := Lib.hid hc0
  clear hcv hc0
  generalize Lib.bytesWorld w 5 ⟨l.toArray⟩ = W0 at *
  go_loopg [5, 11] l.length (fun g s5 s11 wx => wx = W0 ∧ ∃ i a : Nat, i + g = l.length ∧ s11 = .int .i64 (i : Int) ∧ s5 = .int .i64 (a : Int) ∧ Hid (rk q (l.take i) = a))
  case atStart => exact ⟨rfl, 0, 0, by omega, rfl, rfl, rfl⟩
  case round =>
    obtain ⟨rfl, i, a, hi, rfl, rfl, Ha⟩ := hrel
    rcases gk with _ | g
    · obtain rfl : i = l.length := by omega
      have HR := Lib.hid (show rk q l = a by have := Ha.out; rwa [List.take_length] at this)
      clear Ha
      go_wp2
      go_ret
      exact ⟨by rw [HR.out]; rfl, hb0⟩
    · obtain ⟨c, hc⟩ : ∃ c, l[i]? = some c := ⟨_, List.getElem?_eq_getElem (by omega)⟩
      have hcell := HC.out i c hc
      have hcq : dgt c < q := HW.out c (List.mem_of_getElem? hc)
      have hb2 := rk_lt (HW.out.take (i + 1))
      have hp := pow15 (n := (l.take (i + 1)).length) q2 (by rw [List.length_take]; omega)
      have hs : rk q (l.take (i + 1)) = a * q + dgt c := by rw [List.take_add_one, hc, Option.toList, rk_snoc, Ha.out]
      rw [hs] at hb2
      obtain ⟨t, Ht⟩ : ∃ t, Hid (a * q = t) := ⟨_, Lib.hid rfl⟩
      obtain ⟨d, Hd⟩ : ∃ d, Hid (dgt c = d) := ⟨_, Lib.hid rfl⟩
      rw [Ht.out, Hd.out] at hs hb2
      rw [Hd.out] at hcq
      have Hs := Lib.hid hs
      have HD := Lib.hid (fun W => digit_any c W (by rw [Hd.out]; omega))
      have htb : t + d < 1152921504606846976 := by omega
      have hmul : (a : Int) * (q : Int) = (t : Int) := by rw [← Ht.out, Int.natCast_mul]
      have hc' := c.toNat_lt
      clear hc hs hb2 hp
      go_wp2_with (go_at_call 77; (with_reducible refine (HD.out _).mono ?_); rintro e W1 ⟨rfl, rfl⟩; (rw [Hd.out]))
      go_roundg g
      case measure => omega
      case rel => exact ⟨rfl, i + 1, t + d, by omega, by go_num, by go_num, Hs⟩
end Go.Proofs.YtigdjlhihhakmaaGreatDoor

namespace Go.Proofs.YtigdjlhihhakmaaGreatDoor
open Go.RowKit
set_option linter.unusedSimpArgs false

/-- An integer and an error's number. -/
def NumOut (w : World) (z c : Int) (e : Ending) (w' : World) : Prop := e = .returned (.tuple #[.agg #[.bool (sg z), .string (mg z)], .int .i64 c]) ∧ Below w.heap.size w w'
theorem sg0 : sg 0 = false := by decide
theorem mg0 : mg 0 = ⟨#[]⟩ := by unfold mg; rw [show (0 : Int).natAbs = 0 by rfl, bytesOf_zero]
set_option maxRecDepth 100000 in
set_option maxHeartbeats 1600000 in
theorem rank_short (q : Nat) (l : List UInt8) (w : World) (q1 : 1 ≤ q) (q2 : q ≤ 16) (hl : l.length ≤ 15) (hW : Wof q l) :
    Calls Tryz.prog 23 #[.int .i64 (q : Int), .string ⟨l.toArray⟩] w (IntOut w (rk q l)) := by
  have hk := rk_lt hW
  have hp := pow15 (n := l.length) q2 hl
  have HS := Lib.hid (fun W => shortRank_any q l W q1 q2 hl hW)
  obtain ⟨z, hz⟩ : ∃ z : Int, (rk q l : Int) = z := ⟨_, rfl⟩
  have hz0 : 0 ≤ z := by omega
  have hz1 : z < 1152921504606846976 := by omega
  simp only [hz] at HS
  rw [hz]
  clear hk hp hz hW
  have HO := Lib.hid (fun W => iof_any z W (by omega) (by omega))
  have hr := ResCell.new w 23
  have hb := below1 w (.cells #[.bool false, .string ⟨#[]⟩] 23)
  go_enter Tryz.func23, Tryz.ntmps23
  go_wp2_with (first
    | (go_at_call 55; (with_reducible refine (HS.out _).mono ?_); rintro e W1 ⟨rfl, b1⟩)
    | (go_at_call 14; (with_reducible refine (HO.out _).mono ?_); rintro e W2 ⟨rfl, b2⟩; (obtain ⟨r1, r2, r3, r4⟩ := (hr.keep b1).keep b2)))
  exact bodyPost_ret (v := .agg #[.bool (sg z), .string (mg z)]) (by simp [results, Tryz.results23, go_sem, r1, r2]) rfl ⟨rfl, below_more2 (below_more hb (Nat.le_refl _) b1) (Nat.le_refl _) b2 (Nat.le_refl _) (Nat.le_refl _)⟩

/-- The rank, or the error. -/
def rankW (q : Int) (l : List UInt8) : Int := if chk q l = 0 then (rk q.toNat l : Int) else 0
set_option maxRecDepth 100000 in
set_option maxHeartbeats 1600000 in
theorem rank_good (q : Nat) (l : List UInt8) (w : World) (q1 : 1 ≤ q) (q2 : q ≤ 16) (hl : l.length ≤ 65536) (hW : Wof q l) (hR : ∀ W, Calls Tryz.prog 23 #[.int .i64 (q : Int), .string ⟨l.toArray⟩] W (IntOut W (rk q l))) :
    Calls Tryz.prog 8 #[.int .i64 (q : Int), .string ⟨l.toArray⟩] w (NumOut w (rk q l) 0) := by
  have HR := Lib.hid hR
  have HC := Lib.hid (chk_of q1 q2 hl hW)
  have HH := Lib.hid (fun W => check_any (q : Int) l W (by omega))
  simp only [HC.out] at HH
  obtain ⟨z, hz⟩ : ∃ z : Int, (rk q l : Int) = z := ⟨_, rfl⟩
  simp only [hz] at HR
  rw [hz]
  clear hR hW hz
  have hr := ResCell.new w 23
  have hb := below1 w (.cells #[.bool false, .string ⟨#[]⟩] 23)
  go_enter Tryz.func8, Tryz.ntmps8
  go_wp2_with (first
    | (go_at_call 16; (with_reducible refine (HH.out _).mono ?_); rintro e W1 ⟨rfl, b1⟩)
    | (go_at_call 23; (with_reducible refine (HR.out _).mono ?_); rintro e W2 ⟨rfl, b2⟩; (obtain ⟨r1, r2, r3, r4⟩ := (hr.keep b1).keep b2)))
  exact bodyPost_ret (v := .tuple #[.agg #[.bool (sg z), .string (mg z)], .int .i64 0]) (by simp [results, Tryz.results8, go_sem, r1, r2]) rfl ⟨rfl, below_more2 (below_more hb (Nat.le_refl _) b1) (Nat.le_refl _) b2 (Nat.le_refl _) (Nat.le_refl _)⟩
set_option maxRecDepth 100000 in
set_option maxHeartbeats 1600000 in
theorem rank_fail (q : Int) (l : List UInt8) (w : World) (hl : l.length ≤ 9223372036854775807) (h0 : chk q l ≠ 0) :
    Calls Tryz.prog 8 #[.int .i64 q, .string ⟨l.toArray⟩] w (NumOut w 0 (chk q l)) := by
  have HH := Lib.hid (fun W => check_any q l W hl)
  obtain ⟨c, hc⟩ : ∃ c, chk q l = c := ⟨_, rfl⟩
  simp only [hc] at HH
  rw [hc] at h0 ⊢
  have h1 : (c == 0) = false := by rw [beq_eq_false_iff_ne]; exact h0
  clear hc h0
  have hr := ResCell.new w 23
  have hb := below1 w (.cells #[.bool false, .string ⟨#[]⟩] 23)
  go_enter Tryz.func8, Tryz.ntmps8
  go_wp2_with (first
    | (go_at_call 16; (with_reducible refine (HH.out _).mono ?_); rintro e W1 ⟨rfl, b1⟩; (obtain ⟨r1, r2, r3, r4⟩ := hr.keep b1)))
  exact bodyPost_ret (v := .tuple #[.agg #[.bool false, .string ⟨#[]⟩], .int .i64 c]) (by simp [results, Tryz.results8, go_sem, r1, r2]) rfl ⟨by rw [sg0, mg0], below_more2 hb (Nat.le_refl _) b1 (Nat.le_refl _) (Nat.le_refl _)⟩
end Go.Proofs.YtigdjlhihhakmaaGreatDoor
