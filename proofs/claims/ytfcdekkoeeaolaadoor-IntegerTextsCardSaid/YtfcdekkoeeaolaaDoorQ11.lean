/- What integer.isDecimal, integer.fromDecimal and integer.Parse return. Condition: the text has at most 65536 bytes (Parse), else ErrLimit. What integer.decimalGroups returns: the digits to the base 10^9, the least one first. What the three writing methods of strings.Builder leave in this program. -/
import Derived.Test.YtfcdekkoeeaolaaDoorQ09
import Derived.Test.YtfcdekkoeeaolaaDoorQ07
import Derived.Test.YtfcdekkoeeaolaaDoorQ10
import Derived.Maps.AppendAt
import Derived.OwnWalk
import Derived.Test.YtfcdekkoeeaolaaDoorQ02

namespace Go.Proofs.YtfcdekkoeeaolaaDoor
open Go.RowKit

/-! What integer.isDecimal and integer.fromDecimal return: whether a text is a number's digits; the number. Condition: the text's length. -/
def digB (c : UInt8) : Bool := decide (48 ≤ c.toNat) && decide (c.toNat ≤ 57)
/-- The digits of a number from 0 on, without zeros in front. -/
def isDec : List UInt8 → Bool
  | [] => false
  | b :: t => !(decide (t ≠ []) && decide (b.toNat = 48)) && (b :: t).all digB
theorem all_take_succ {l : List UInt8} {k : Nat} {c : UInt8} (h : (l.take k).all digB = true) (hc : l[k]? = some c) (hd : digB c = true) : (l.take (k + 1)).all digB = true := by
  rw [List.take_add_one, hc, List.all_append, h]; simp [hd]
theorem not_all {l : List UInt8} {k : Nat} {c : UInt8} (hc : l[k]? = some c) (hd : digB c = false) : l.all digB = false := by
  rw [Bool.eq_false_iff]
  intro h
  have := List.all_eq_true.1 h c (List.mem_of_getElem? hc)
  rw [hd] at this; cases this
theorem isDec_no {l : List UInt8} (h : l.all digB = false) : isDec l = false := by
  cases l with
  | nil => rfl
  | cons b t => show (!(decide (t ≠ []) && decide (b.toNat = 48)) && (b :: t).all digB) = false; rw [h, Bool.and_false]

set_option maxHeartbeats 1600000 in
theorem isDecimal_any (l : List UInt8) (w : World) (hl : l.length ≤ 10000000000) :
    Calls Tryd.prog 18 #[.string ⟨l.toArray⟩] w fun e w' => e = .returned (.bool (isDec l)) ∧ w = w' := by
  cases l with
  | nil =>
    go_enter Tryd.func18, Tryd.ntmps18
    go_wp2
    go_ret
    exact ⟨rfl, rfl⟩
  | cons b t =>
    have hix := run_index_bytes (b :: t) 0 b rfl 0 (by simp)
    have hb' := b.toNat_lt
    have hlen : t.length + 1 ≤ 10000000000 := hl
    clear hl
    by_cases ht : t ≠ [] ∧ b.toNat = 48
    · obtain ⟨h1, h2⟩ := ht
      have hpos : 0 < t.length := List.length_pos_iff.2 h1
      have H1 : Hid (isDec (b :: t) = false) := by show _ = _; unfold isDec; simp [h1, h2]
      clear h1
      go_enter Tryd.func18, Tryd.ntmps18
      go_wp2
      go_ret
      exact ⟨by rw [H1.out]; rfl, rfl⟩
    · have H1 : Hid (isDec (b :: t) = (b :: t).all digB) := by
        show _ = _
        unfold isDec
        by_cases a1 : t = []
        · simp [a1]
        · have a2 : b.toNat ≠ 48 := fun e => ht ⟨a1, e⟩
          simp [a1, a2]
      have ht2 : t.length = 0 ∨ (0 < t.length ∧ ((b.toNat : Int) == 48) = false) := by
        rcases Nat.eq_zero_or_pos t.length with a1 | a1
        · exact Or.inl a1
        · have a2 : b.toNat ≠ 48 := fun e => ht ⟨List.length_pos_iff.1 a1, e⟩
          exact Or.inr ⟨a1, by rw [beq_eq_false_iff_ne]; omega⟩
      clear ht
      rcases ht2 with ht2 | ⟨ht2, ht3⟩
      all_goals
        go_enter Tryd.func18, Tryd.ntmps18
        go_wp2_with fail
        generalize hL : b :: t = L at *
        have hLl : L.length = t.length + 1 := by rw [← hL]; rfl
        have HL : Hid (b :: t = L) := hL
        clear hL hix
        go_loopg [18] L.length (fun q i wx => wx = w ∧ ∃ k : Nat, k + q = L.length ∧ i = .int .i64 k ∧ Hid ((L.take k).all digB = true))
        case atStart => exact ⟨rfl, 0, by omega, rfl, by show _ = _; simp⟩
        case round =>
          obtain ⟨rfl, k, hk, rfl, HA⟩ := hrel
          rcases gk with _ | q
          · obtain rfl : k = L.length := by omega
            have HB : Hid (L.all digB = true) := by have := HA.out; rwa [List.take_length] at this
            clear hk HA
            go_wp2
            go_ret
            exact ⟨by rw [HL.out, H1.out, HB.out]; rfl, rfl⟩
          · obtain ⟨c, hc⟩ : ∃ c, L[k]? = some c := ⟨_, List.getElem?_eq_getElem (by omega)⟩
            have hix := run_index_bytes L k c hc (k : Int) rfl
            have hc' := c.toNat_lt
            have Hc : Hid (L[k]? = some c) := hc
            clear hc
            rcases (show c.toNat < 48 ∨ 57 < c.toNat ∨ (48 ≤ c.toNat ∧ c.toNat ≤ 57) by omega) with h1 | h1 | ⟨h1, h2⟩
            · have HB : Hid (L.all digB = false) := not_all Hc.out (by unfold digB; simp; omega)
              go_wp2
              go_ret
              exact ⟨by rw [HL.out, H1.out, HB.out]; rfl, rfl⟩
            · have HB : Hid (L.all digB = false) := not_all Hc.out (by unfold digB; simp; omega)
              go_wp2
              go_ret
              exact ⟨by rw [HL.out, H1.out, HB.out]; rfl, rfl⟩
            · have HB : Hid ((L.take (k + 1)).all digB = true) := all_take_succ HA.out Hc.out (by unfold digB; simp; omega)
              go_wp2
              go_roundg q
              case measure => omega
              case rel => exact ⟨rfl, k + 1, by omega, by go_num, HB⟩

/-! What integer.fromDecimal returns: the number with some decimal digits. Condition: digits, at most 10^9 of them. -/
/-- The number with some decimal digits. -/
def dv (l : List UInt8) : Nat := l.foldl (fun a c => 10 * a + (c.toNat - 48)) 0
theorem dv_acc (l : List UInt8) (a : Nat) : l.foldl (fun a c => 10 * a + (c.toNat - 48)) a = a * 10 ^ l.length + dv l := by
  induction l generalizing a with
  | nil => simp [dv]
  | cons c l ih =>
    unfold dv
    rw [List.foldl_cons, List.foldl_cons, ih, ih (10 * 0 + _), List.length_cons, Nat.pow_succ, Nat.add_mul, Nat.mul_zero, Nat.zero_add]
    rw [show 10 * a * 10 ^ l.length = a * (10 ^ l.length * 10) by rw [Nat.mul_comm 10 a, Nat.mul_assoc, Nat.mul_comm 10]]
    omega
theorem dv_append (l m : List UInt8) : dv (l ++ m) = dv l * 10 ^ m.length + dv m := by
  conv => lhs; unfold dv
  rw [List.foldl_append, dv_acc]; rfl
theorem dv_snoc (l : List UInt8) (c : UInt8) : dv (l ++ [c]) = 10 * dv l + (c.toNat - 48) := by
  rw [dv_append]; simp [dv]; omega
theorem dv_cons (c : UInt8) (l : List UInt8) : dv (c :: l) = (c.toNat - 48) * 10 ^ l.length + dv l := by
  have := dv_append [c] l
  simpa [dv] using this
theorem dv_lt {l : List UInt8} (h : l.all digB = true) : dv l < 10 ^ l.length := by
  induction l with
  | nil => simp [dv]
  | cons c l ih =>
    rw [List.all_cons, Bool.and_eq_true] at h
    have h1 := ih h.2
    have h2 : c.toNat - 48 ≤ 9 := by have := h.1; simp [digB] at this; omega
    have h3 := Nat.mul_le_mul_right (10 ^ l.length) h2
    rw [dv_cons, List.length_cons, Nat.pow_succ]
    omega
theorem all_take {l : List UInt8} (h : l.all digB = true) (k : Nat) : (l.take k).all digB = true := by
  rw [List.all_eq_true] at h ⊢
  exact fun x hx => h x (List.mem_of_mem_take hx)
theorem all_drop {l : List UInt8} (h : l.all digB = true) (k : Nat) : (l.drop k).all digB = true := by
  rw [List.all_eq_true] at h ⊢
  exact fun x hx => h x (List.mem_of_mem_drop hx)
theorem dv_big {l : List UInt8} (h : l.all digB = true) : dv l < 4294967296 ^ l.length := Nat.lt_of_lt_of_le (dv_lt h) (Nat.pow_le_pow_left (by omega) _)
theorem run_cut_bytes (l g : List UInt8) (a b : Nat) (za zb : Int) (hz : za = (a : Int)) (hy : zb = (b : Int)) (h1 : a ≤ b) (h2 : b ≤ l.length) (hg : (l.drop a).take (b - a) = g) (w : World) :
    (Instr.slice 9 (.string ⟨l.toArray⟩) (some (.int .i64 za)) (some (.int .i64 zb)) none).run Tryd.prog w = .ok (.string ⟨g.toArray⟩) w := by
  subst hz; subst hy
  rw [run_slice_string w 9 ⟨l.toArray⟩ .i64 .i64 a b Tryd.underlying9 (by omega) (by omega) (by simp [ByteArray.size]; omega), Int.toNat_natCast, Int.toNat_natCast, ByteArray.extract_mk, hg]
theorem dig_at {l : List UInt8} {k : Nat} {c : UInt8} (h : l.all digB = true) (hc : l[k]? = some c) : 48 ≤ c.toNat ∧ c.toNat ≤ 57 := by
  have := List.all_eq_true.1 h c (List.mem_of_getElem? hc)
  simp [digB] at this; omega

set_option maxRecDepth 100000 in
set_option maxHeartbeats 3200000 in
theorem fromDecimal_any (l : List UInt8) (w : World) (hl : l.length ≤ 1000000000) (hd : l.all digB = true) :
    Calls Tryd.prog 20 #[.string ⟨l.toArray⟩] w (NatOut w (dv l)) := by
  have Hd : Hid (l.all digB = true) := hd
  clear hd
  go_enter Tryd.func20, Tryd.ntmps20
  go_wp2_with fail
  go_loopg [3, 4] ((l.length + 8) / 9) (fun q s3 s4 wx => ∃ (j s : Nat) (A : Option Addr) (n c : Nat), j + q = (l.length + 8) / 9 ∧ s = 9 * j ∧ s4 = .int .i64 (s : Int) ∧ s3 = .slice A n c ∧ IsNat wx A n c (dv (l.take s)) ∧ Below w.heap.size w wx)
  case atStart => exact ⟨0, 0, none, 0, 0, by omega, rfl, rfl, rfl, by simpa [dv] using zero_nat w, Below.refl _ _⟩
  case round =>
    obtain ⟨j, s, A, n, c, hj, hs, rfl, rfl, iN, hb⟩ := hrel
    rcases gk with _ | q
    · have hsl : l.length ≤ s := by omega
      rw [List.take_of_length_le hsl] at iN
      go_wp2
      go_ret
      exact ⟨_, _, _, rfl, iN, hb⟩
    · have hsl : s < l.length := by omega
      obtain ⟨m, hm0, hm9, hm⟩ : ∃ m, 0 < m ∧ m ≤ 9 ∧ ((s + 9 ≤ l.length ∧ m = 9) ∨ (l.length < s + 9 ∧ s + m = l.length)) := by
        rcases Nat.lt_or_ge l.length (s + 9) with a1 | a1
        · exact ⟨l.length - s, by omega, by omega, Or.inr ⟨a1, by omega⟩⟩
        · exact ⟨9, by omega, by omega, Or.inl ⟨a1, rfl⟩⟩
      obtain ⟨g, hg⟩ : ∃ g, (l.drop s).take m = g := ⟨_, rfl⟩
      have hgl : g.length = m := by rw [← hg, List.length_take, List.length_drop]; omega
      have Hga : Hid (g.all digB = true) := by show _ = _; rw [← hg]; exact all_take (all_drop Hd.out s) m
      have Hst : Hid (l.take (s + 9) = l.take s ++ g) := by
        show _ = _
        rw [List.take_add, ← hg]
        congr 1
        rcases hm with ⟨_, a2⟩ | ⟨a1, a2⟩
        · rw [a2]
        · rw [List.take_of_length_le (by rw [List.length_drop]; omega), List.take_of_length_le (by rw [List.length_drop]; omega)]
      have hn : n ≤ 1000000000 := by
        have h1 := iN.len (dv_big (all_take Hd.out s))
        rw [List.length_take] at h1
        omega
      have Hj : Hid (j + (q + 1) = (l.length + 8) / 9) := hj
      have Hs : Hid (s = 9 * j) := hs
      have h10 : 10 ^ m ≤ 10 ^ 9 := Nat.pow_le_pow_right (by omega) hm9
      have Hpm : Hid ((10 : Nat) ^ m ≤ 1000000000) := h10
      clear hj hs h10
      have hsl' : ∀ w, (Instr.slice 9 (.string ⟨l.toArray⟩) (some (.int .i64 (s : Int))) (some (.int .i64 (min ((s : Int) + 9) (l.length : Int)))) none).run Tryd.prog w = .ok (.string ⟨g.toArray⟩) w := by
        rcases hm with ⟨hm1, hm2⟩ | ⟨hm1, hm2⟩
        · exact run_cut_bytes l g s (s + 9) (s : Int) _ rfl (by omega) (by omega) (by omega) (by rw [← hg, hm2]; congr 1; omega)
        · exact run_cut_bytes l g s l.length (s : Int) _ rfl (by omega) (by omega) (by omega) (by rw [← hg]; congr 1; omega)
      clear hm
      clear hg
      go_wp2_with fail
      clear hsl'
      go_loopg [6, 7, 25] m (fun r s6 s7 s25 wx => wx = wr ∧ ∃ (k p v : Nat), k + r = m ∧ Hid (10 ^ k = p) ∧ Hid (dv (g.take k) = v) ∧ v < p ∧ p ≤ 1000000000 ∧ s25 = .int .i64 (k : Int) ∧ s6 = .int .u32 (p : Int) ∧ s7 = .int .u32 (v : Int))
      case atStart => exact ⟨rfl, 0, 1, 0, by omega, rfl, by show _ = _; simp [dv], by omega, by omega, rfl, rfl, rfl⟩
      case round =>
        obtain ⟨rfl, k, p, v, hk, Hp, Hv, hvp, hp, rfl, rfl, rfl⟩ := hrel
        rcases gk with _ | r
        · obtain rfl : k = m := by omega
          have Hgv : Hid (dv (l.take s) * p + v = dv (l.take (s + 9))) := by
            show _ = _
            have e1 := Hv.out
            rw [List.take_of_length_le (by omega)] at e1
            rw [Hst.out, dv_append, hgl, Hp.out, e1]
          clear hk
          go_wp2_with fail
          refine (mulAdd_any A n c (dv (l.take s)) p v _ iN (by omega) (by omega) (by omega)).mono ?_
          rintro e W1 ⟨A2, n2, c2, rfl, i2, b2⟩
          rw [Hgv.out] at i2
          have hb2 := below_more hb (Nat.le_refl _) b2
          go_wp2_with fail
          go_roundg q
          case measure => omega
          case rel => exact ⟨j + 1, s + 9, A2, n2, c2, by have := Hj.out; omega, by have := Hs.out; omega, by go_num, rfl, i2, hb2⟩
        · obtain ⟨x, hx⟩ : ∃ x, g[k]? = some x := ⟨_, List.getElem?_eq_getElem (by omega)⟩
          have hix := run_index_bytes g k x hx (k : Int) rfl
          obtain ⟨hx1, hx2⟩ := dig_at Hga.out hx
          have Hp2 : Hid (10 ^ (k + 1) = p * 10) := by show _ = _; rw [Nat.pow_succ, Hp.out]
          have Hv2 : Hid (dv (g.take (k + 1)) = 10 * v + (x.toNat - 48)) := by
            show _ = _
            rw [List.take_add_one, hx]
            show dv (g.take k ++ [x]) = _
            rw [dv_snoc, Hv.out]
          have hp10 : p * 10 ≤ 1000000000 := by
            rw [← Hp2.out]
            exact Nat.le_trans (Nat.pow_le_pow_right (by omega) (by omega)) Hpm.out
          clear hx
          go_wp2
          go_roundg r
          case measure => omega
          case rel => exact ⟨rfl, k + 1, p * 10, 10 * v + (x.toNat - 48), by omega, Hp2, Hv2, by omega, hp10, by go_num, by go_num, congrArg (Value.int _) (by omega)⟩

/-! What integer.Parse returns: the integer with a text, or ErrSyntax, or ErrLimit. -/
def cutD (l : List UInt8) : List UInt8 := Lib.trimPrefix l [45]
def cutN (l : List UInt8) : Bool := Lib.hasPrefix l [45]
/-- The integer with a text. -/
def pz (l : List UInt8) : Option Int :=
  if isDec (cutD l) = false ∨ (cutN l = true ∧ cutD l = [48]) then none else some (if cutN l then -(dv (cutD l) : Int) else (dv (cutD l) : Int))
theorem cut_any (l : List UInt8) (w : World) :
    Calls Tryd.prog 17 #[.string ⟨l.toArray⟩, .string ⟨#[45]⟩] w fun e w' => e = .returned (.tuple #[.string ⟨(cutD l).toArray⟩, .bool (cutN l)]) ∧ w' = w := Tryd.strings_CutPrefix ⟨l.toArray⟩ ⟨#[45]⟩ w
theorem cutD_len (l : List UInt8) : (cutD l).length ≤ l.length := by
  unfold cutD Lib.trimPrefix
  split
  · rw [List.length_drop]; omega
  · exact Nat.le_refl _
theorem isDec_all {l : List UInt8} (h : isDec l = true) : l.all digB = true := by
  cases e : l.all digB with
  | true => rfl
  | false => rw [isDec_no e] at h; cases h

def ParseOut (w : World) (r : Option Int) (e : Ending) (w' : World) : Prop :=
  match r with
  | some z => GoodOut w z e w'
  | none => FailOut w 3 e w'

set_option maxRecDepth 100000 in
set_option maxHeartbeats 3200000 in
theorem parse_limit (s : ByteArray) (w : World) (hs : 65536 < s.size) (hs2 : s.size ≤ 9223372036854775807) :
    Calls Tryd.prog 6 #[.string s] w (FailOut w 4) := by
  have hr := ResCell.new w 23
  obtain ⟨r1, r2, r3, r4⟩ := hr
  have hb := below1 w (.cells #[.bool false, .string ⟨#[]⟩] 23)
  go_enter Tryd.func6, Tryd.ntmps6
  go_wp2_with fail
  exact bodyPost_ret (v := .tuple #[.agg #[.bool false, .string ⟨#[]⟩], .int .i64 4]) (by simp [results, Tryd.results6, go_sem, r1, r2]) rfl ⟨rfl, hb⟩

set_option maxRecDepth 100000 in
set_option maxHeartbeats 3200000 in
theorem parse_any (l : List UInt8) (w : World) (hl : l.length ≤ 65536) :
    Calls Tryd.prog 6 #[.string ⟨l.toArray⟩] w (ParseOut w (pz l)) := by
  have hdl := cutD_len l
  obtain ⟨d, hd⟩ : ∃ d, cutD l = d := ⟨_, rfl⟩
  obtain ⟨g, hg⟩ : ∃ g, cutN l = g := ⟨_, rfl⟩
  have Hd : Hid (cutD l = d) := hd
  have Hg : Hid (cutN l = g) := hg
  have Hpz : Hid (pz l = if isDec d = false ∨ (g = true ∧ d = [48]) then none else some (if g then -(dv d : Int) else (dv d : Int))) := by show _ = _; unfold pz; rw [hd, hg]
  rw [hd] at hdl
  clear hd hg
  have hr := ResCell.new w 23
  have hb := below1 w (.cells #[.bool false, .string ⟨#[]⟩] 23)
  go_enter Tryd.func6, Tryd.ntmps6
  go_wp2_with fail
  refine (cut_any l _).mono ?_
  rintro e W1 ⟨rfl, rfl⟩
  rw [Hd.out, Hg.out]
  go_wp2_with fail
  refine (isDecimal_any d _ (by omega)).mono ?_
  rintro e W1 ⟨rfl, rfl⟩
  by_cases hi : isDec d = false
  · have HP : Hid (pz l = none) := by show _ = _; rw [Hpz.out, if_pos (Or.inl hi)]
    rw [hi]
    obtain ⟨r1, r2, r3, r4⟩ := hr
    go_wp2_with fail
    exact bodyPost_ret (v := .tuple #[.agg #[.bool false, .string ⟨#[]⟩], .int .i64 3]) (by simp [results, Tryd.results6, go_sem, r1, r2]) rfl (by rw [HP.out]; exact ⟨rfl, hb⟩)
  · have hi2 : isDec d = true := by simpa using hi
    have Hall := Lib.hid (isDec_all hi2)
    rw [hi2]
    by_cases hz : g = true ∧ d = [48]
    · obtain ⟨rfl, rfl⟩ := hz
      have HP : Hid (pz l = none) := by show _ = _; rw [Hpz.out, if_pos (Or.inr ⟨rfl, rfl⟩)]
      obtain ⟨r1, r2, r3, r4⟩ := hr
      clear hi hi2
      go_wp2_with fail
      exact bodyPost_ret (v := .tuple #[.agg #[.bool false, .string ⟨#[]⟩], .int .i64 3]) (by simp [results, Tryd.results6, go_sem, r1, r2]) rfl (by rw [HP.out]; exact ⟨rfl, hb⟩)
    · obtain ⟨z, hzz⟩ : ∃ z : Int, z = if g then -(dv d : Int) else (dv d : Int) := ⟨_, rfl⟩
      have HP : Hid (pz l = some z) := by show _ = _; rw [Hpz.out, if_neg (by rw [hi2]; simpa using hz), hzz]
      have Hz : Hid (z = if g then -(dv d : Int) else (dv d : Int)) := hzz
      have hz2 : g = false ∨ (g = true ∧ (d == [48]) = false) := by
        cases g with
        | false => exact Or.inl rfl
        | true => exact Or.inr ⟨rfl, by rw [beq_eq_false_iff_ne]; exact fun e => hz ⟨rfl, e⟩⟩
      clear hi hi2 hz hzz Hpz
      rcases hz2 with rfl | ⟨rfl, hz2⟩
      all_goals
        go_wp2_with fail
        refine (fromDecimal_any d _ (by omega) Hall.out).mono ?_
        rintro e W2 ⟨A, n, c, rfl, i2, b2⟩
        have l2 : n ≤ 1000000000 := by have := i2.len (dv_big Hall.out); omega
        have HR := hr.keep b2
        go_wp2_with fail
        refine (signed_any _ A n c _ _ i2 l2).mono ?_
        rintro e W3 ⟨rfl, b3⟩
        first | rw [ivN_eq true _ z Hz.out] | rw [ivN_eq false _ z Hz.out]
        obtain ⟨r1, r2, r3, r4⟩ := HR.keep b3
        go_wp2_with fail
        exact bodyPost_ret (v := .tuple #[.agg #[.bool (sg z), .string (mg z)], .int .i64 0]) (by simp [results, Tryd.results6, go_sem, r1, r2]) rfl (by rw [HP.out]; exact ⟨rfl, below_more2 (below_more hb (Nat.le_refl _) b2) (Nat.le_refl _) b3 (Nat.le_refl _) (Nat.le_refl _)⟩)
end Go.Proofs.YtfcdekkoeeaolaaDoor

namespace Go.Proofs.YtfcdekkoeeaolaaDoor
open Go.RowKit

/-- The digits of N to the base 10^9, the least one first. -/
def gs (N : Nat) : List Nat := if h : N = 0 then [] else N % 1000000000 :: gs (N / 1000000000)
termination_by N
decreasing_by exact Nat.div_lt_self (by omega) (by omega)
theorem gs_zero : gs 0 = [] := by rw [gs]; rfl
theorem gs_pos {N : Nat} (h : N ≠ 0) : gs N = N % 1000000000 :: gs (N / 1000000000) := by rw [gs, dif_neg h]
theorem gs_len {N k : Nat} (h : N < 1000000000 ^ k) : (gs N).length ≤ k := by
  induction k generalizing N with
  | zero => have : N = 0 := by simp at h; exact h
            subst this; rw [gs_zero]; exact Nat.le_refl _
  | succ k ih =>
    by_cases h0 : N = 0
    · subst h0; rw [gs_zero]; exact Nat.zero_le _
    · rw [gs_pos h0, List.length_cons]
      have := ih (Nat.div_lt_of_lt_mul (by rw [Nat.pow_succ, Nat.mul_comm] at h; exact h))
      omega
theorem gs_room {N k : Nat} (h : N < 4294967296 ^ k) : (gs N).length ≤ 2 * k := by
  apply gs_len
  refine Nat.lt_of_lt_of_le h ?_
  rw [Nat.pow_mul]
  exact Nat.pow_le_pow_left (by omega) _
def gvs (l : List Nat) : List Value := l.map fun (d : Nat) => .int .u32 (d : Int)
theorem gvs_len (l : List Nat) : (gvs l).length = l.length := by unfold gvs; exact List.length_map _
theorem gvs_snoc (l : List Nat) (d : Nat) : gvs (l ++ [d]) = gvs l ++ [.int .u32 (d : Int)] := by unfold gvs; rw [List.map_append]; rfl

/-- A number keeps where another block grows. -/
theorem isNat_grown {w w' : World} {a : Addr} {n c N : Nat} {row : Option Nat} (h : IsNat w (some a) n c N) (hg : w.grownBy w' row) (hr : some a.block ≠ row) : IsNat w' (some a) n c N := by
  obtain ⟨h1, h2, f, ⟨b, off, hA, hcell⟩, h4⟩ := h
  refine ⟨h1, h2, f, ⟨b, off, hA, fun i hi => hg.cell (hcell i hi) ?_⟩, h4⟩
  have := hA (by omega)
  injection this with this
  subst this
  exact hr
theorem grown_of_below {w w' : World} (h : Below w.heap.size w w') (row : Option Nat) : w.grownBy w' row := ⟨h.os, h.tape, h.output, h.size, fun k hk _ => h.block k hk⟩
theorem nat_none {w : World} {A : Option Addr} {n c N : Nat} (h : IsNat w A n c N) : (n = 0 ↔ N = 0) := by
  obtain ⟨_, _, f, _, _, tf, hv⟩ := h
  constructor
  · rintro rfl; exact hv.symm
  · intro h0
    rcases Nat.eq_zero_or_pos n with h1 | h1
    · exact h1
    · have := val_ge h1 (tf h1)
      have hp : 0 < 4294967296 ^ (n - 1) := Nat.pow_pos (by omega)
      omega

def GrOut (w : World) (N : Nat) (e : Ending) (w' : World) : Prop := ∃ v, e = .returned v ∧ w'.ownsRow w.heap.size 58 1 v (gs N).length (gvs (gs N)) ∧ Below w.heap.size w w'

set_option maxHeartbeats 1600000 in
theorem groups_any (A : Option Addr) (n c N k : Nat) (w : World) (hA : IsNat w A n c N) (hN : N < 4294967296 ^ k) (hk : k ≤ 10000000) :
    Calls Tryd.prog 24 #[.slice A n c] w (GrOut w N) := by
  have hn := hA.len hN
  have hroom := gs_room hN
  have Hk : Hid (N < 4294967296 ^ k) := hN
  obtain ⟨i0, hi, hz0, hz1, hz2⟩ := info_parts Tryd.infoU32
  clear hN
  go_enter Tryd.func24, Tryd.ntmps24
  go_wp2_with fail
  go_loopg [0, 3] (gs N).length (fun g s0 s3 wx => ∃ A1 n1 c1 M xs, g = (gs M).length ∧ s0 = .slice A1 n1 c1 ∧ IsNat wx A1 n1 c1 M ∧ M < 4294967296 ^ k ∧ Hid (xs ++ gs M = gs N) ∧ wx.ownsRow w.heap.size 58 1 s3 xs.length (gvs xs) ∧ (∀ b, s3.ownBlock = some b → ∀ a, A1 = some a → some a.block ≠ some b) ∧ Below w.heap.size w wx)
  case atStart => exact ⟨A, n, c, N, [], rfl, rfl, hA, Hk.out, rfl, World.ownsRow_nil _ _ _ _, fun b hb => by simp [Value.ownBlock] at hb, Below.refl _ _⟩
  case round =>
    obtain ⟨A1, n1, c1, M, xs, rfl, rfl, i1, hM, HX, hown, hne, hb⟩ := hrel
    have HM : Hid (M < 4294967296 ^ k) := hM
    have hn1 : n1 ≤ 10000000 := by have := i1.len hM; omega
    by_cases h0 : M = 0
    · subst h0
      obtain rfl := (nat_none i1).2 rfl
      have hx := HX.out
      rw [gs_zero, List.append_nil] at hx
      subst hx
      clear hM hne i1
      go_wp2
      go_ret
      exact ⟨_, rfl, hown, hb⟩
    · have hn0 : 0 < n1 := by have := mt (nat_none i1).1 h0; omega
      have hlen : xs.length + (gs M).length = (gs N).length := by rw [← HX.out, List.length_append]
      have hg := gs_pos h0
      have hg1 : (gs M).length = (gs (M / 1000000000)).length + 1 := by rw [hg, List.length_cons]
      have HX2 : Hid ((xs ++ [M % 1000000000]) ++ gs (M / 1000000000) = gs N) := by
        show _ = _
        rw [← HX.out, hg, List.append_assoc]; rfl
      have HM2 : Hid (M / 1000000000 < 4294967296 ^ k) := Nat.lt_of_le_of_lt (Nat.div_le_self _ _) HM.out
      have HG1 := Lib.hid hg1
      have Hlen : Hid (xs.length + (gs M).length = (gs N).length) := hlen
      have hr := Nat.mod_lt M (show 1000000000 > 0 by omega)
      have hlt := hown.lt
      have hbs := hb.size
      have hxl : xs.length ≤ 20000000 := by omega
      clear hM hg hg1 hlen
      go_wp2_with fail
      refine (divSmall_new A1 n1 c1 M 1000000000 _ (by obtain ⟨_, _, f, a1, a2, _, a3⟩ := i1; exact ⟨f, a1, a2, a3⟩) (by omega) (by omega) (by omega)).mono ?_
      rintro e W1 ⟨n2, c2, rfl, i2, b2⟩
      have hown1 : W1.ownsRow w.heap.size 58 1 u3 xs.length (gvs xs) := hown.kept (grown_of_below b2 none) (by cases hv : u3.ownBlock <;> simp)
      have hb1 := below_more hb (Nat.le_refl _) b2
      have hs2 := b2.size
      have hs3 := hb1.size
      clear i1 hne hown hb
      generalize M % 1000000000 = r at *
      generalize hQ : M / 1000000000 = Q at *
      go_wp2_with (first | (at_builtin; refine wpList_append_own_at _ rfl _ _ 43 rfl w.heap.size 58 i0 (.int .u32 0) 1 4 Tryd.underlying43 hi hz0 hz1 hz2 rfl (by decide) _ _ _ rfl (hown1.alloc _) ⟨W1.heap.size, 0, none⟩ 1 1 [.int .u32 (r : Int)] rfl rfl ?c1 ?c2 ?c3 ?c4 ?c5 ?_))
      case c1 => exact cell_one_new _ _ _
      case c2 => intro u hu; simp at hu; subst hu; rfl
      case c3 => unfold maxLen; omega
      case c4 => omega
      case c5 => rw [World.size_alloc]; omega
      · intro v' W2 hown2 hgrow _ hv'
        have hlt1 := hown1.lt
        have hA2 : some wr.heap.size ≠ u3.ownBlock := fun e => by have := (hlt _ e.symm).2; omega
        have i3 : IsNat (W1.alloc (.cells #[.int .u32 (r : Int)] 58)) (some ⟨wr.heap.size, 0, none⟩) n2 c2 Q := i2.below (Nat.le_refl _) (below1 _ _)
        have i4 : IsNat W2 (some ⟨wr.heap.size, 0, none⟩) n2 c2 Q := isNat_grown i3 hgrow hA2
        have hne2 : ∀ b, v'.ownBlock = some b → ∀ a, (some ⟨wr.heap.size, 0, none⟩ : Option Addr) = some a → some a.block ≠ some b := by
          intro b hb' a ha
          injection ha with ha
          subst ha
          rcases hv' with h | h
          · rw [← hb', h]; exact hA2
          · rw [← hb', h]; intro e; injection e with e; have : wr.heap.size = W1.heap.size + 1 := e; omega
        have hb2 : Below w.heap.size w W2 := ((hb1.alloc (Nat.le_trans (Nat.le_refl _) hs3) _).grown hgrow (by rw [World.size_alloc]; omega) (fun k hk => (hlt1 k hk).1))
        rw [← gvs_snoc] at hown2
        have hl : xs.length + 1 = (xs ++ [r]).length := by simp
        rw [hl] at hown2
        clear hown1 hgrow hv' hlt hlt1 i2 i3 b2 hb1 hs2 hs3 hl
        go_wp2
        go_roundg (gs Q).length
        case measure => have := HG1.out; omega
        case rel => exact ⟨some ⟨wr.heap.size, 0, none⟩, n2, c2, Q, xs ++ [r], rfl, rfl, i4, HM2.out, HX2, hown2, hne2, hb2⟩
end Go.Proofs.YtfcdekkoeeaolaaDoor

namespace Go.Proofs.YtfcdekkoeeaolaaDoor
open Go.RowKit

abbrev tB : TypeId := 52
/-- A builder that has been written at least once, and holds these bytes. -/
abbrev BldAt (B b : Nat) (bs : List Value) (w : World) : Prop := Lib.BuilderAt 52 5 B b (.pointer (some ⟨b, 0, none⟩)) bs w
/-- A builder that holds these bytes. -/
abbrev Bld (B b : Nat) (bs : List Value) (w : World) : Prop := Lib.IsBuilder 52 5 B b bs w

/-- Blocks of another type than the builder's and its bytes' are as they were. -/
def KeepT (w w' : World) : Prop := ∀ (k : Nat) (cs : Array Value) (T : TypeId) (fz : Nat × Nat), w.heap[k]? = some (.cells cs T fz) → T ≠ 52 → T ≠ 5 → w'.heap[k]? = some (.cells cs T fz)
theorem KeepT.refl (w : World) : KeepT w w := fun _ _ _ _ h _ _ => h
theorem KeepT.trans {w w1 w2 : World} (h : KeepT w w1) (k : KeepT w1 w2) : KeepT w w2 := fun i cs T fz a b c => k i cs T fz (h i cs T fz a b c) b c
theorem heap_lt {w : World} {k : Nat} {o : Obj} (h : w.heap[k]? = some o) : k < w.heap.size := by
  rcases Nat.lt_or_ge k w.heap.size with h' | h'
  · exact h'
  · simp [Array.getElem?_eq_none h'] at h
theorem KeepT.below {w w' : World} (h : Below w.heap.size w w') : KeepT w w' := fun k _ _ _ a _ _ => (h.block k (heap_lt a)).trans a
theorem KeepT.grown {w w' : World} {B : Nat} {v : Value} {n : Nat} {xs : List Value} (hown : w.ownsRow B 5 1 v n xs) (hg : w.grownBy w' v.ownBlock) : KeepT w w' := fun k cs T fz a _ c => by
  rw [hg.block k (heap_lt a) (fun e => ?_)]
  · exact a
  · rcases hown.2 with ⟨rfl, _⟩ | ⟨g, cap, cur, rfl, _, hgg, _⟩
    · simp [Value.ownBlock] at e
    · simp only [Value.ownBlock, Option.some.injEq] at e
      subst e
      rw [hgg] at a
      injection a with a
      injection a with _ a _
      exact c a.symm
theorem KeepT.set {w : World} {b j : Nat} {cs0 : Array Value} {fz0 : Nat × Nat} (hb : w.heap[b]? = some (.cells cs0 52 fz0)) (u : Value) : KeepT w (w.setCell ⟨b, j, none⟩ u) := fun k cs T fz a c _ => by
  rw [Below.heap_setCell _ _ _ _ (fun e => ?_)]
  · exact a
  · have e : k = b := e
    subst e
    rw [hb] at a
    injection a with a
    injection a with _ a _
    exact c a.symm

theorem Tryd.sizeBld : (Tryd.prog.info? 52).map (·.size) = some 2 := by kernel_rfl
theorem Tryd.liesBld : liesAt Tryd.prog Tryd.prog.depth 52 (2 / Tryd.prog.cellsOf 52) 0 52 1 = true := by kernel_rfl

set_option maxRecDepth 100000 in
set_option maxHeartbeats 1000000 in
theorem check_old (b : Nat) (w : World) (h0 : w.cell? ⟨b, 0, none⟩ = some (.pointer (some ⟨b, 0, none⟩))) :
    Calls Tryd.prog 41 #[.pointer (some ⟨b, 0, none⟩)] w fun e w' => e = .returned (.tuple #[]) ∧ w' = w := by
  obtain ⟨j, hj, _⟩ := Option.map_eq_some_iff.1 Tryd.sizeBld
  go_enter Tryd.func41, Tryd.ntmps41
  go_wp2
  rw [Lib.run_neq_ptr_same w _ Tryd.underlying50 hj]
  go_wp2
  go_end0
  exact ⟨rfl, rfl⟩

set_option maxRecDepth 100000 in
set_option maxHeartbeats 1000000 in
theorem check_new (b : Nat) (w : World) (h0 : w.cell? ⟨b, 0, none⟩ = some (.pointer none)) (hsh : w.shape? b = some (52, 2)) (hfz : w.frozen? ⟨b, 0, none⟩ = false) :
    Calls Tryd.prog 41 #[.pointer (some ⟨b, 0, none⟩)] w fun e w' => e = .returned (.tuple #[]) ∧ w' = w.setCell ⟨b, 0, none⟩ (.pointer (some ⟨b, 0, none⟩)) := by
  obtain ⟨j, hj, hjs⟩ := Option.map_eq_some_iff.1 Tryd.sizeBld
  go_enter Tryd.func41, Tryd.ntmps41
  go_wp2
  rw [Lib.run_to_unsafe w ⟨b, 0, none⟩ Tryd.underlying50 Tryd.underlying88 hj (by rw [hjs]; decide) hsh (Nat.zero_lt_succ 1)]
  simp only [Result.andThen]
  rw [Oper.upon_value]
  go_wp2
  rw [run_callFunc_extern Tryd.func58 (by kernel_rfl) (by kernel_rfl) (by kernel_rfl) (e := Extern.AbiNoEscape.same) (by kernel_rfl), Lib.run_noEscape]
  simp only [Result.andThen]
  rw [Oper.upon_value]
  go_wp2
  rw [Lib.run_from_unsafe w ⟨b, 0, none⟩ Tryd.underlying88 Tryd.underlying50 hj hsh Tryd.liesBld]
  simp only [Result.andThen]
  rw [Oper.upon_value]
  go_wp2
  go_end0
  exact ⟨rfl, rfl⟩

/-- Behind copyCheck the builder is written, and holds what it held. -/
theorem check_any (B b : Nat) (bs : List Value) (w : World) (h : Bld B b bs w) :
    Calls Tryd.prog 41 #[.pointer (some ⟨b, 0, none⟩)] w fun e w' => e = .returned (.tuple #[]) ∧ BldAt B b bs w' ∧ Below B w w' ∧ KeepT w w' := by
  rcases h with h | h
  · refine (check_new b w h.cell0 h.shape h.frozen0).mono ?_
    rintro e w' ⟨rfl, rfl⟩
    obtain ⟨_, v, hbk, _⟩ := id h
    exact ⟨rfl, h.used _, (Below.refl B w).setCell (p := ⟨b, 0, none⟩) h.1 _, KeepT.set hbk _⟩
  · refine (check_old b w h.cell0).mono ?_
    rintro e w' ⟨rfl, rfl⟩
    exact ⟨rfl, h, Below.refl B _, KeepT.refl _⟩

theorem Tryd.infoByte : (Tryd.prog.info? 5).map (fun i => (i.zero, i.size, i.bytes)) = some (some (.int .u8 0), 1, 1) := by kernel_rfl

/-- The builder's own block while its row grows. -/
theorem bld_block {b : Nat} {v : Value} {p : Value} {w w' : World} (hbk : w.heap[b]? = some (.cells #[p, v] 52 (0, 0))) (hg : w.grownBy w' v.ownBlock) (hne : v.ownBlock ≠ some b) : w'.heap[b]? = some (.cells #[p, v] 52 (0, 0)) ∧ b < w.heap.size := by
  have hlt : b < w.heap.size := by
    rcases Nat.lt_or_ge b w.heap.size with h' | h'
    · exact h'
    · simp [Array.getElem?_eq_none h'] at hbk
  exact ⟨(hg.block b hlt (fun e => hne e.symm)).trans hbk, hlt⟩

set_option maxRecDepth 100000 in
set_option maxHeartbeats 2000000 in
theorem writeByte_any (B b : Nat) (bs : List Value) (c : Int) (w : World) (h : Bld B b bs w) (hlen : bs.length ≤ 1000000000) (hBw : B ≤ w.heap.size) :
    Calls Tryd.prog 23 #[.pointer (some ⟨b, 0, none⟩), .int .u8 c] w fun e w' => e = .returned .nilIface ∧ BldAt B b (bs ++ [.int .u8 c]) w' ∧ Below B w w' ∧ KeepT w w' := by
  obtain ⟨i0, hi, hz0, hz1, hz2⟩ := info_parts Tryd.infoByte
  go_enter Tryd.func23, Tryd.ntmps23
  go_wp2_with fail
  refine (check_any B b bs _ h).mono ?_
  rintro e w1 ⟨rfl, ⟨hB, v, hbk, hown, hne⟩, hb1, hk1⟩
  have c0 : w1.cell? ⟨b, 0, none⟩ = some (.pointer (some ⟨b, 0, none⟩)) := by rw [Lib.cell_of_heap hbk]; rfl
  have c1 : w1.cell? ⟨b, 1, none⟩ = some v := by rw [Lib.cell_of_heap hbk]; rfl
  have hs1 := hb1.size
  have hbk' : (w1.alloc (.cells #[.int .u8 c] 5)).heap[b]? = some (.cells #[.pointer (some ⟨b, 0, none⟩), v] 52 (0, 0)) := by
    rw [Lib.alloc_old w1 _ b (by
      rcases Nat.lt_or_ge b w1.heap.size with h' | h'
      · exact h'
      · simp [Array.getElem?_eq_none h'] at hbk)]
    exact hbk
  go_wp2_with (at_builtin; refine wpList_append_own_at _ rfl _ _ 46 rfl B 5 i0 (.int .u8 0) 1 1 Tryd.underlying46 hi hz0 hz1 hz2 rfl (by decide) _ _ _ rfl (hown.alloc _) ⟨w1.heap.size, 0, none⟩ 1 1 [.int .u8 c] rfl rfl ?c1 ?c2 ?c3 ?c4 ?c5 ?_)
  case c1 => exact cell_one_new _ _ _
  case c2 => intro u hu; simp at hu; subst hu; rfl
  case c3 => unfold maxLen; omega
  case c4 => omega
  case c5 => rw [World.size_alloc]; omega
  intro v' w2 hown' hgrow _ _
  obtain ⟨hb2, hlt⟩ := bld_block hbk' hgrow hne
  have d0 : w2.cell? ⟨b, 0, none⟩ = some (.pointer (some ⟨b, 0, none⟩)) := by rw [Lib.cell_of_heap hb2]; rfl
  have d1 : w2.cell? ⟨b, 1, none⟩ = some v := by rw [Lib.cell_of_heap hb2]; rfl
  have f1 : w2.frozen? ⟨b, 1, none⟩ = false := Lib.frozen_of_heap hb2 1
  obtain ⟨g, cap, rfl⟩ : ∃ g cap, v' = .slice (some ⟨g, 0, none⟩) (bs.length + 1) cap := by
    rcases hown'.2 with ⟨_, h0⟩ | ⟨g, cap, cur, hv, _⟩
    · omega
    · exact ⟨g, cap, hv⟩
  go_wp2
  go_ret
  refine ⟨rfl, Lib.BuilderAt.put hB hb2 (bs' := bs ++ [.int .u8 c]) (by simpa using hown') (by decide), ?_, ((hk1.trans (KeepT.below (below1 _ _))).trans (KeepT.grown (hown.alloc _) hgrow)).trans (KeepT.set hb2 _)⟩
  exact ((hb1.alloc (by omega) _).grown hgrow (by rw [World.size_alloc]; omega) (fun k hk => (hown.lt k hk).1)).setCell (p := ⟨b, 1, none⟩) hB _

set_option maxRecDepth 100000 in
set_option maxHeartbeats 2000000 in
theorem writeString_any (B b : Nat) (bs : List Value) (s : ByteArray) (w : World) (h : Bld B b bs w) (hlen : bs.length + s.size ≤ 1000000000) (hBw : B ≤ w.heap.size) :
    Calls Tryd.prog 26 #[.pointer (some ⟨b, 0, none⟩), .string s] w fun e w' => e = .returned (.tuple #[.int .i64 s.size, .nilIface]) ∧ BldAt B b (bs ++ Lib.strCells s) w' ∧ Below B w w' ∧ KeepT w w' := by
  obtain ⟨i0, hi, hz0, hz1, hz2⟩ := info_parts Tryd.infoByte
  go_enter Tryd.func26, Tryd.ntmps26
  go_wp2_with fail
  refine (check_any B b bs _ h).mono ?_
  rintro e w1 ⟨rfl, ⟨hB, v, hbk, hown, hne⟩, hb1, hk1⟩
  have c0 : w1.cell? ⟨b, 0, none⟩ = some (.pointer (some ⟨b, 0, none⟩)) := by rw [Lib.cell_of_heap hbk]; rfl
  have c1 : w1.cell? ⟨b, 1, none⟩ = some v := by rw [Lib.cell_of_heap hbk]; rfl
  have hs1 := hb1.size
  go_wp2_with (at_builtin; refine Lib.wpList_append_own_string _ rfl _ _ 46 9 rfl B 5 i0 Tryd.underlying46 Tryd.underlying9 hi hz0 hz1 hz2 _ _ _ rfl hown s rfl ?c3 ?c4 ?c5 ?_)
  case c3 => unfold maxLen; omega
  case c4 => omega
  case c5 => omega
  intro v' w2 hown' hgrow _
  obtain ⟨hb2, hlt⟩ := bld_block hbk hgrow hne
  have d0 : w2.cell? ⟨b, 0, none⟩ = some (.pointer (some ⟨b, 0, none⟩)) := by rw [Lib.cell_of_heap hb2]; rfl
  have d1 : w2.cell? ⟨b, 1, none⟩ = some v := by rw [Lib.cell_of_heap hb2]; rfl
  have f1 : w2.frozen? ⟨b, 1, none⟩ = false := Lib.frozen_of_heap hb2 1
  obtain ⟨ao, n', cap, rfl⟩ : ∃ ao n' cap, v' = .slice ao n' cap := by
    rcases hown'.2 with ⟨hv, _⟩ | ⟨g, cap, cur, hv, _⟩
    · exact ⟨_, _, _, hv⟩
    · exact ⟨_, _, _, hv⟩
  go_wp2
  go_ret2
  refine ⟨rfl, Lib.BuilderAt.put hB hb2 (bs' := bs ++ Lib.strCells s) (by simpa [Lib.strCells_length] using hown') (by decide), ?_, (hk1.trans (KeepT.grown hown hgrow)).trans (KeepT.set hb2 _)⟩
  exact (hb1.grown hgrow (by omega) (fun k hk => (hown.lt k hk).1)).setCell (p := ⟨b, 1, none⟩) hB _
end Go.Proofs.YtfcdekkoeeaolaaDoor
