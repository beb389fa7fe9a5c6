/- What integer.isDecimal, integer.fromDecimal and integer.Parse return. Condition: the text has at most 65536 bytes (Parse), else ErrLimit. -/
import Derived.Test.YtdbfghppjhmelaaDoorMulAdd
import Derived.Test.YtdbfghppjhmelaaDoorInt
import Derived.Test.YtdbfghppjhmelaaDoorDivd
import Derived.Test.YtdbfghppjhmelaaDoorIpow
namespace Go.Proofs.YtdbfghppjhmelaaDoor
open Go.RowKit

/-! What integer.isDecimal and integer.fromDecimal return: whether a text is a number's digits; the number. Condition: the text's length. -/
def digB (c : UInt8) : Bool := decide (48 ≤ c.toNat) && decide (c.toNat ≤ 57)
/-- The digits of a number from 0 on, without zeros in front. -/
def isDec : List UInt8 → Bool
  | [] => false
  | b :: t => !(decide (t ≠ []) && decide (b.toNat = 48)) && (b :: t).all digB
theorem all_take_succ {l : List UInt8} {k : Nat} {c : UInt8} (h : (l.take k).all digB = true) (hc : l[k]? = some c) (hd : digB c = true) : (l.take (k + 1)).all digB = true := by
  rw [List.take_add_one, hc, List.all_append, h]; simp [hd]
theorem not_all {l : List UInt8} {k : Nat} {c : UInt8} (hc : l[k]? = some c) (hd : digB c = false) : l.all digB = false := by
  rw [Bool.eq_false_iff]
  intro h
  have := List.all_eq_true.1 h c (List.mem_of_getElem? hc)
  rw [hd] at this; cases this
theorem isDec_no {l : List UInt8} (h : l.all digB = false) : isDec l = false := by
  cases l with
  | nil => rfl
  | cons b t => show (!(decide (t ≠ []) && decide (b.toNat = 48)) && (b :: t).all digB) = false; rw [h, Bool.and_false]

set_option maxHeartbeats 1600000 in
theorem isDecimal_any (l : List UInt8) (w : World) (hl : l.length ≤ 10000000000) :
    Calls Tryd.prog 33 #[.string ⟨l.toArray⟩] w fun e w' => e = .returned (.bool (isDec l)) ∧ w = w' := by
  cases l with
  | nil =>
    go_enter Tryd.func33, Tryd.ntmps33
    go_wp2
    go_ret
    exact ⟨rfl, rfl⟩
  | cons b t =>
    have hix := run_index_bytes (b :: t) 0 b rfl 0 (by simp)
    have hb' := b.toNat_lt
    have hlen : t.length + 1 ≤ 10000000000 := hl
    clear hl
    by_cases ht : t ≠ [] ∧ b.toNat = 48
    · obtain ⟨h1, h2⟩ := ht
      have hpos : 0 < t.length := List.length_pos_iff.2 h1
      have H1 : Hid (isDec (b :: t) = false) := by show _ = _; unfold isDec; simp [h1, h2]
      clear h1
      go_enter Tryd.func33, Tryd.ntmps33
      go_wp2
      go_ret
      exact ⟨by rw [H1.out]; rfl, rfl⟩
    · have H1 : Hid (isDec (b :: t) = (b :: t).all digB) := by
        show _ = _
        unfold isDec
        by_cases a1 : t = []
        · simp [a1]
        · have a2 : b.toNat ≠ 48 := fun e => ht ⟨a1, e⟩
          simp [a1, a2]
      have ht2 : t.length = 0 ∨ (0 < t.length ∧ ((b.toNat : Int) == 48) = false) := by
        rcases Nat.eq_zero_or_pos t.length with a1 | a1
        · exact Or.inl a1
        · have a2 : b.toNat ≠ 48 := fun e => ht ⟨List.length_pos_iff.1 a1, e⟩
          exact Or.inr ⟨a1, by rw [beq_eq_false_iff_ne]; omega⟩
      clear ht
      rcases ht2 with ht2 | ⟨ht2, ht3⟩
      all_goals
        go_enter Tryd.func33, Tryd.ntmps33
        go_wp2_with fail
        generalize hL : b :: t = L at *
        have hLl : L.length = t.length + 1 := by rw [← hL]; rfl
        have HL : Hid (b :: t = L) := hL
        clear hL hix
        go_loopg [18] L.length (fun q i wx => wx = w ∧ ∃ k : Nat, k + q = L.length ∧ i = .int .i64 k ∧ Hid ((L.take k).all digB = true))
        case atStart => exact ⟨rfl, 0, by omega, rfl, by show _ = _; simp⟩
        case round =>
          obtain ⟨rfl, k, hk, rfl, HA⟩ := hrel
          rcases gk with _ | q
          · obtain rfl : k = L.length := by omega
            have HB : Hid (L.all digB = true) := by have := HA.out; rwa [List.take_length] at this
            clear hk HA
            go_wp2
            go_ret
            exact ⟨by rw [HL.out, H1.out, HB.out]; rfl, rfl⟩
          · obtain ⟨c, hc⟩ : ∃ c, L[k]? = some c := ⟨_, List.getElem?_eq_getElem (by omega)⟩
            have hix := run_index_bytes L k c hc (k : Int) rfl
            have hc' := c.toNat_lt
            have Hc : Hid (L[k]? = some c) := hc
            clear hc
            rcases (show c.toNat < 48 ∨ 57 < c.toNat ∨ (48 ≤ c.toNat ∧ c.toNat ≤ 57) by omega) with h1 | h1 | ⟨h1, h2⟩
            · have HB : Hid (L.all digB = false) := not_all Hc.out (by unfold digB; simp; omega)
              go_wp2
              go_ret
              exact ⟨by rw [HL.out, H1.out, HB.out]; rfl, rfl⟩
            · have HB : Hid (L.all digB = false) := not_all Hc.out (by unfold digB; simp; omega)
              go_wp2
              go_ret
              exact ⟨by rw [HL.out, H1.out, HB.out]; rfl, rfl⟩
            · have HB : Hid ((L.take (k + 1)).all digB = true) := all_take_succ HA.out Hc.out (by unfold digB; simp; omega)
              go_wp2
              go_roundg q
              case measure => omega
              case rel => exact ⟨rfl, k + 1, by omega, by go_num, HB⟩

/-! What integer.fromDecimal returns: the number with some decimal digits. Condition: digits, at most 10^9 of them. -/
/-- The number with some decimal digits. -/
def dv (l : List UInt8) : Nat := l.foldl (fun a c => 10 * a + (c.toNat - 48)) 0
theorem dv_acc (l : List UInt8) (a : Nat) : l.foldl (fun a c => 10 * a + (c.toNat - 48)) a = a * 10 ^ l.length + dv l := by
  induction l generalizing a with
  | nil => simp [dv]
  | cons c l ih =>
    unfold dv
    rw [List.foldl_cons, List.foldl_cons, ih, ih (10 * 0 + _), List.length_cons, Nat.pow_succ, Nat.add_mul, Nat.mul_zero, Nat.zero_add]
    rw [show 10 * a * 10 ^ l.length = a * (10 ^ l.length * 10) by rw [Nat.mul_comm 10 a, Nat.mul_assoc, Nat.mul_comm 10]]
    omega
theorem dv_append (l m : List UInt8) : dv (l ++ m) = dv l * 10 ^ m.length + dv m := by
  conv => lhs; unfold dv
  rw [List.foldl_append, dv_acc]; rfl
theorem dv_snoc (l : List UInt8) (c : UInt8) : dv (l ++ [c]) = 10 * dv l + (c.toNat - 48) := by
  rw [dv_append]; simp [dv]; omega
theorem dv_cons (c : UInt8) (l : List UInt8) : dv (c :: l) = (c.toNat - 48) * 10 ^ l.length + dv l := by
  have := dv_append [c] l
  simpa [dv] using this
theorem dv_lt {l : List UInt8} (h : l.all digB = true) : dv l < 10 ^ l.length := by
  induction l with
  | nil => simp [dv]
  | cons c l ih =>
    rw [List.all_cons, Bool.and_eq_true] at h
    have h1 := ih h.2
    have h2 : c.toNat - 48 ≤ 9 := by have := h.1; simp [digB] at this; omega
    have h3 := Nat.mul_le_mul_right (10 ^ l.length) h2
    rw [dv_cons, List.length_cons, Nat.pow_succ]
    omega
theorem all_take {l : List UInt8} (h : l.all digB = true) (k : Nat) : (l.take k).all digB = true := by
  rw [List.all_eq_true] at h ⊢
  exact fun x hx => h x (List.mem_of_mem_take hx)
theorem all_drop {l : List UInt8} (h : l.all digB = true) (k : Nat) : (l.drop k).all digB = true := by
  rw [List.all_eq_true] at h ⊢
  exact fun x hx => h x (List.mem_of_mem_drop hx)
theorem dv_big {l : List UInt8} (h : l.all digB = true) : dv l < 4294967296 ^ l.length := Nat.lt_of_lt_of_le (dv_lt h) (Nat.pow_le_pow_left (by omega) _)
theorem run_cut_bytes (l g : List UInt8) (a b : Nat) (za zb : Int) (hz : za = (a : Int)) (hy : zb = (b : Int)) (h1 : a ≤ b) (h2 : b ≤ l.length) (hg : (l.drop a).take (b - a) = g) (w : World) :
    (Instr.slice 9 (.string ⟨l.toArray⟩) (some (.int .i64 za)) (some (.int .i64 zb)) none).run Tryd.prog w = .ok (.string ⟨g.toArray⟩) w := by
  subst hz; subst hy
  rw [run_slice_string w 9 ⟨l.toArray⟩ .i64 .i64 a b Tryd.underlying9 (by omega) (by omega) (by simp [ByteArray.size]; omega), Int.toNat_natCast, Int.toNat_natCast, ByteArray.extract_mk, hg]
theorem dig_at {l : List UInt8} {k : Nat} {c : UInt8} (h : l.all digB = true) (hc : l[k]? = some c) : 48 ≤ c.toNat ∧ c.toNat ≤ 57 := by
  have := List.all_eq_true.1 h c (List.mem_of_getElem? hc)
  simp [digB] at this; omega

set_option maxRecDepth 100000 in
set_option maxHeartbeats 3200000 in
theorem fromDecimal_any (l : List UInt8) (w : World) (hl : l.length ≤ 1000000000) (hd : l.all digB = true) :
    Calls Tryd.prog 35 #[.string ⟨l.toArray⟩] w (NatOut w (dv l)) := by
  have Hd : Hid (l.all digB = true) := hd
  clear hd
  go_enter Tryd.func35, Tryd.ntmps35
  go_wp2_with fail
  go_loopg [3, 4] ((l.length + 8) / 9) (fun q s3 s4 wx => ∃ (j s : Nat) (A : Option Addr) (n c : Nat), j + q = (l.length + 8) / 9 ∧ s = 9 * j ∧ s4 = .int .i64 (s : Int) ∧ s3 = .slice A n c ∧ IsNat wx A n c (dv (l.take s)) ∧ Below w.heap.size w wx)
  case atStart => exact ⟨0, 0, none, 0, 0, by omega, rfl, rfl, rfl, by simpa [dv] using zero_nat w, Below.refl _ _⟩
  case round =>
    obtain ⟨j, s, A, n, c, hj, hs, rfl, rfl, iN, hb⟩ := hrel
    rcases gk with _ | q
    · have hsl : l.length ≤ s := by omega
      rw [List.take_of_length_le hsl] at iN
      go_wp2
      go_ret
      exact ⟨_, _, _, rfl, iN, hb⟩
    · have hsl : s < l.length := by omega
      obtain ⟨m, hm0, hm9, hm⟩ : ∃ m, 0 < m ∧ m ≤ 9 ∧ ((s + 9 ≤ l.length ∧ m = 9) ∨ (l.length < s + 9 ∧ s + m = l.length)) := by
        rcases Nat.lt_or_ge l.length (s + 9) with a1 | a1
        · exact ⟨l.length - s, by omega, by omega, Or.inr ⟨a1, by omega⟩⟩
        · exact ⟨9, by omega, by omega, Or.inl ⟨a1, rfl⟩⟩
      obtain ⟨g, hg⟩ : ∃ g, (l.drop s).take m = g := ⟨_, rfl⟩
      have hgl : g.length = m := by rw [← hg, List.length_take, List.length_drop]; omega
      have Hga : Hid (g.all digB = true) := by show _ = _; rw [← hg]; exact all_take (all_drop Hd.out s) m
      have Hst : Hid (l.take (s + 9) = l.take s ++ g) := by
        show _ = _
        rw [List.take_add, ← hg]
        congr 1
        rcases hm with ⟨_, a2⟩ | ⟨a1, a2⟩
        · rw [a2]
        · rw [List.take_of_length_le (by rw [List.length_drop]; omega), List.take_of_length_le (by rw [List.length_drop]; omega)]
      have hn : n ≤ 1000000000 := by
        have h1 := iN.len (dv_big (all_take Hd.out s))
        rw [List.length_take] at h1
        omega
      have Hj : Hid (j + (q + 1) = (l.length + 8) / 9) := hj
      have Hs : Hid (s = 9 * j) := hs
      have h10 : 10 ^ m ≤ 10 ^ 9 := Nat.pow_le_pow_right (by omega) hm9
      have Hpm : Hid ((10 : Nat) ^ m ≤ 1000000000) := h10
      clear hj hs h10
      have hsl' : ∀ w, (Instr.slice 9 (.string ⟨l.toArray⟩) (some (.int .i64 (s : Int))) (some (.int .i64 (min ((s : Int) + 9) (l.length : Int)))) none).run Tryd.prog w = .ok (.string ⟨g.toArray⟩) w := by
        rcases hm with ⟨hm1, hm2⟩ | ⟨hm1, hm2⟩
        · exact run_cut_bytes l g s (s + 9) (s : Int) _ rfl (by omega) (by omega) (by omega) (by rw [← hg, hm2]; congr 1; omega)
        · exact run_cut_bytes l g s l.length (s : Int) _ rfl (by omega) (by omega) (by omega) (by rw [← hg]; congr 1; omega)
      clear hm
      clear hg
      go_wp2_with fail
      clear hsl'
      go_loopg [6, 7, 25] m (fun r s6 s7 s25 wx => wx = wr ∧ ∃ (k p v : Nat), k + r = m ∧ Hid (10 ^ k = p) ∧ Hid (dv (g.take k) = v) ∧ v < p ∧ p ≤ 1000000000 ∧ s25 = .int .i64 (k : Int) ∧ s6 = .int .u32 (p : Int) ∧ s7 = .int .u32 (v : Int))
      case atStart => exact ⟨rfl, 0, 1, 0, by omega, rfl, by show _ = _; simp [dv], by omega, by omega, rfl, rfl, rfl⟩
      case round =>
        obtain ⟨rfl, k, p, v, hk, Hp, Hv, hvp, hp, rfl, rfl, rfl⟩ := hrel
        rcases gk with _ | r
        · obtain rfl : k = m := by omega
          have Hgv : Hid (dv (l.take s) * p + v = dv (l.take (s + 9))) := by
            show _ = _
            have e1 := Hv.out
            rw [List.take_of_length_le (by omega)] at e1
            rw [Hst.out, dv_append, hgl, Hp.out, e1]
          clear hk
          go_wp2_with fail
          refine (mulAdd_any A n c (dv (l.take s)) p v _ iN (by omega) (by omega) (by omega)).mono ?_
          rintro e W1 ⟨A2, n2, c2, rfl, i2, b2⟩
          rw [Hgv.out] at i2
          have hb2 := below_more hb (Nat.le_refl _) b2
          go_wp2_with fail
          go_roundg q
          case measure => omega
          case rel => exact ⟨j + 1, s + 9, A2, n2, c2, by have := Hj.out; omega, by have := Hs.out; omega, by go_num, rfl, i2, hb2⟩
        · obtain ⟨x, hx⟩ : ∃ x, g[k]? = some x := ⟨_, List.getElem?_eq_getElem (by omega)⟩
          have hix := run_index_bytes g k x hx (k : Int) rfl
          obtain ⟨hx1, hx2⟩ := dig_at Hga.out hx
          have Hp2 : Hid (10 ^ (k + 1) = p * 10) := by show _ = _; rw [Nat.pow_succ, Hp.out]
          have Hv2 : Hid (dv (g.take (k + 1)) = 10 * v + (x.toNat - 48)) := by
            show _ = _
            rw [List.take_add_one, hx]
            show dv (g.take k ++ [x]) = _
            rw [dv_snoc, Hv.out]
          have hp10 : p * 10 ≤ 1000000000 := by
            rw [← Hp2.out]
            exact Nat.le_trans (Nat.pow_le_pow_right (by omega) (by omega)) Hpm.out
          clear hx
          go_wp2
          go_roundg r
          case measure => omega
          case rel => exact ⟨rfl, k + 1, p * 10, 10 * v + (x.toNat - 48), by omega, Hp2, Hv2, by omega, hp10, by go_num, by go_num, congrArg (Value.int _) (by omega)⟩

/-! What integer.Parse returns: the integer with a text, or ErrSyntax, or ErrLimit. -/
def cutD (l : List UInt8) : List UInt8 := Lib.trimPrefix l [45]
def cutN (l : List UInt8) : Bool := Lib.hasPrefix l [45]
/-- The integer with a text. -/
def pz (l : List UInt8) : Option Int :=
  if isDec (cutD l) = false ∨ (cutN l = true ∧ cutD l = [48]) then none else some (if cutN l then -(dv (cutD l) : Int) else (dv (cutD l) : Int))
theorem cut_any (l : List UInt8) (w : World) :
    Calls Tryd.prog 32 #[.string ⟨l.toArray⟩, .string ⟨#[45]⟩] w fun e w' => e = .returned (.tuple #[.string ⟨(cutD l).toArray⟩, .bool (cutN l)]) ∧ w' = w := Tryd.strings_CutPrefix ⟨l.toArray⟩ ⟨#[45]⟩ w
theorem cutD_len (l : List UInt8) : (cutD l).length ≤ l.length := by
  unfold cutD Lib.trimPrefix
  split
  · rw [List.length_drop]; omega
  · exact Nat.le_refl _
theorem isDec_all {l : List UInt8} (h : isDec l = true) : l.all digB = true := by
  cases e : l.all digB with
  | true => rfl
  | false => rw [isDec_no e] at h; cases h

def ParseOut (w : World) (r : Option Int) (e : Ending) (w' : World) : Prop :=
  match r with
  | some z => GoodOut w z e w'
  | none => FailOut w 3 e w'

set_option maxRecDepth 100000 in
set_option maxHeartbeats 3200000 in
theorem parse_limit (s : ByteArray) (w : World) (hs : 65536 < s.size) (hs2 : s.size ≤ 9223372036854775807) :
    Calls Tryd.prog 13 #[.string s] w (FailOut w 4) := by
  have hr := ResCell.new w 23
  obtain ⟨r1, r2, r3, r4⟩ := hr
  have hb := below1 w (.cells #[.bool false, .string ⟨#[]⟩] 23)
  go_enter Tryd.func13, Tryd.ntmps13
  go_wp2_with fail
  exact bodyPost_ret (v := .tuple #[.agg #[.bool false, .string ⟨#[]⟩], .int .i64 4]) (by simp [results, Tryd.results13, go_sem, r1, r2]) rfl ⟨rfl, hb⟩

set_option maxRecDepth 100000 in
set_option maxHeartbeats 3200000 in
theorem parse_any (l : List UInt8) (w : World) (hl : l.length ≤ 65536) :
    Calls Tryd.prog 13 #[.string ⟨l.toArray⟩] w (ParseOut w (pz l)) := by
  have hdl := cutD_len l
  obtain ⟨d, hd⟩ : ∃ d, cutD l = d := ⟨_, rfl⟩
  obtain ⟨g, hg⟩ : ∃ g, cutN l = g := ⟨_, rfl⟩
  have Hd : Hid (cutD l = d) := hd
  have Hg : Hid (cutN l = g) := hg
  have Hpz : Hid (pz l = if isDec d = false ∨ (g = true ∧ d = [48]) then none else some (if g then -(dv d : Int) else (dv d : Int))) := by show _ = _; unfold pz; rw [hd, hg]
  rw [hd] at hdl
  clear hd hg
  have hr := ResCell.new w 23
  have hb := below1 w (.cells #[.bool false, .string ⟨#[]⟩] 23)
  go_enter Tryd.func13, Tryd.ntmps13
  go_wp2_with fail
  refine (cut_any l _).mono ?_
  rintro e W1 ⟨rfl, rfl⟩
  rw [Hd.out, Hg.out]
  go_wp2_with fail
  refine (isDecimal_any d _ (by omega)).mono ?_
  rintro e W1 ⟨rfl, rfl⟩
  by_cases hi : isDec d = false
  · have HP : Hid (pz l = none) := by show _ = _; rw [Hpz.out, if_pos (Or.inl hi)]
    rw [hi]
    obtain ⟨r1, r2, r3, r4⟩ := hr
    go_wp2_with fail
    exact bodyPost_ret (v := .tuple #[.agg #[.bool false, .string ⟨#[]⟩], .int .i64 3]) (by simp [results, Tryd.results13, go_sem, r1, r2]) rfl (by rw [HP.out]; exact ⟨rfl, hb⟩)
  · have hi2 : isDec d = true := by simpa using hi
    have Hall := Lib.hid (isDec_all hi2)
    rw [hi2]
    by_cases hz : g = true ∧ d = [48]
    · obtain ⟨rfl, rfl⟩ := hz
      have HP : Hid (pz l = none) := by show _ = _; rw [Hpz.out, if_pos (Or.inr ⟨rfl, rfl⟩)]
      obtain ⟨r1, r2, r3, r4⟩ := hr
      clear hi hi2
      go_wp2_with fail
      exact bodyPost_ret (v := .tuple #[.agg #[.bool false, .string ⟨#[]⟩], .int .i64 3]) (by simp [results, Tryd.results13, go_sem, r1, r2]) rfl (by rw [HP.out]; exact ⟨rfl, hb⟩)
    · obtain ⟨z, hzz⟩ : ∃ z : Int, z = if g then -(dv d : Int) else (dv d : Int) := ⟨_, rfl⟩
      have HP : Hid (pz l = some z) := by show _ = _; rw [Hpz.out, if_neg (by rw [hi2]; simpa using hz), hzz]
      have Hz : Hid (z = if g then -(dv d : Int) else (dv d : Int)) := hzz
      have hz2 : g = false ∨ (g = true ∧ (d == [48]) = false) := by
        cases g with
        | false => exact Or.inl rfl
        | true => exact Or.inr ⟨rfl, by rw [beq_eq_false_iff_ne]; exact fun e => hz ⟨rfl, e⟩⟩
      clear hi hi2 hz hzz Hpz
      rcases hz2 with rfl | ⟨rfl, hz2⟩
      all_goals
        go_wp2_with fail
        refine (fromDecimal_any d _ (by omega) Hall.out).mono ?_
        rintro e W2 ⟨A, n, c, rfl, i2, b2⟩
        have l2 : n ≤ 1000000000 := by have := i2.len (dv_big Hall.out); omega
        have HR := hr.keep b2
        go_wp2_with fail
        refine (signed_any _ A n c _ _ i2 l2).mono ?_
        rintro e W3 ⟨rfl, b3⟩
        first | rw [ivN_eq true _ z Hz.out] | rw [ivN_eq false _ z Hz.out]
        obtain ⟨r1, r2, r3, r4⟩ := HR.keep b3
        go_wp2_with fail
        exact bodyPost_ret (v := .tuple #[.agg #[.bool (sg z), .string (mg z)], .int .i64 0]) (by simp [results, Tryd.results13, go_sem, r1, r2]) rfl (by rw [HP.out]; exact ⟨rfl, below_more2 (below_more hb (Nat.le_refl _) b2) (Nat.le_refl _) b3 (Nat.le_refl _) (Nat.le_refl _)⟩)
end Go.Proofs.YtdbfghppjhmelaaDoor
