/- What slices.Contains of integers returns. Condition: the length is one of a slice. What the law's search for what is reached keeps: three rows of integers of its own; what they hold. No condition. What math/bits.TrailingZeros64 and the functions of states return: Of, Every, Members, Step. Conditions: the library's table reads as its text lays it; states are below 64. -/
import Derived.Test.YthhbbiafffpknaaDoorQ06
import Derived.Test.YthhbbiafffpknaaDoorQ05
import Derived.Test.YthhbbiafffpknaaDoorQ08
import Derived.Test.YthhbbiafffpknaaDoorQ04
import Derived.Shelf.Spec.TrailingZeros

namespace Go.Proofs.YthhbbiafffpknaaDoor
open Go.RowKit
set_option linter.unusedSimpArgs false
set_option linter.unusedVariables false

end Go.Proofs.YthhbbiafffpknaaDoor

namespace Go.Proofs.YthhbbiafffpknaaDoor
open Go.RowKit
set_option linter.unusedSimpArgs false
set_option linter.unusedVariables false

/-- Two rows that share no block. -/
def Dj (v v' : Value) : Prop := ∀ k, v.ownBlock = some k → v'.ownBlock = some k → False
theorem Dj.symm {v v' : Value} (h : Dj v v') : Dj v' v := fun k h1 h2 => h k h2 h1
theorem Dj.or {v v' : Value} (h : Dj v v') : v.ownBlock = none ∨ v.ownBlock ≠ v'.ownBlock := by
  cases e : v.ownBlock with
  | none => exact .inl rfl
  | some k => exact .inr (fun e' => h k e e'.symm)
theorem Dj.nil (v : Value) : Dj v (.slice none 0 0) := fun k _ h => by simp [Value.ownBlock] at h
structure LP (B : Nat) (A : World) (s t u : Value) (r m x : List Int) (W : World) : Prop where
  b : Below B A W
  le : B ≤ A.heap.size
  r : IntsAt W B s r
  m : IntsAt W B t m
  x : IntsAt W B u x
  st : Dj s t
  su : Dj s u
  tu : Dj t u
section
variable {B : Nat} {A W W' : World} {s t u s' : Value} {r m x r' : List Int} {o : Obj}
theorem LP.sz (h : LP B A s t u r m x W) : B ≤ W.heap.size := Nat.le_trans h.le h.b.size
theorem LP.keep (h : LP B A s t u r m x W) (hb : Below W.heap.size W W') : LP B A s t u r m x W' :=
  ⟨h.b.trans (hb.mono h.sz), h.le, h.r.keep hb, h.m.keep hb, h.x.keep hb, h.st, h.su, h.tu⟩
theorem dj_app {k0 : Nat} {v v' a : Value} (h : Dj v a) (hv : v'.ownBlock = v.ownBlock ∨ v'.ownBlock = some k0) (hl : ∀ k, a.ownBlock = some k → k < k0) : Dj v' a := fun k h1 h2 => by
  rcases hv with hv | hv
  · exact h k (hv.symm.trans h1) h2
  · rw [hv] at h1
    injection h1 with h1
    have := hl k h2
    omega
theorem LP.app (h : LP B A s t u r m x W) (hg : (W.alloc o).grownBy W' s.ownBlock) (hr : IntsAt W' B s' r') (hv : s'.ownBlock = s.ownBlock ∨ s'.ownBlock = some (W.heap.size + 1)) : LP B A s' t u r' m x W' := by
  have hz := h.sz
  refine ⟨(h.b.alloc hz o).grown hg (by rw [World.size_alloc]; omega) (fun k hk => (h.r.lt k hk).1), h.le, hr, World.ownsRow.kept (World.ownsRow.alloc h.m o) hg h.st.symm.or, World.ownsRow.kept (World.ownsRow.alloc h.x o) hg h.su.symm.or, ?_, ?_, h.tu⟩
  · exact dj_app h.st hv (fun k hk => Nat.lt_succ_of_lt (h.m.lt k hk).2)
  · exact dj_app h.su hv (fun k hk => Nat.lt_succ_of_lt (h.x.lt k hk).2)
theorem LP.turn (h : LP B A s t u r m x W) : LP B A u t s x m r W := ⟨h.b, h.le, h.x, h.m, h.r, h.tu.symm, h.su.symm, h.st.symm⟩
/-- What was next is now. -/
theorem LP.next (h : LP B A s t u r m x W) : LP B A s u (.slice none 0 0) r x [] W := ⟨h.b, h.le, h.r, h.x, ints_nil _ _, h.su, Dj.nil _, Dj.nil _⟩
theorem LP.reset (h : LP B A s t u r m x W) : LP B A s t (.slice none 0 0) r m [] W := ⟨h.b, h.le, h.r, h.m, ints_nil _ _, h.st, Dj.nil _, Dj.nil _⟩
theorem LP.start (W : World) (z : Int) (t : TypeId) (ht : t = 3) : LP W.heap.size W (.slice none 0 0) (.slice (some ⟨W.heap.size, 0, none⟩) 1 1) (.slice none 0 0) [] [z] [] (W.alloc (.cells #[.int .i64 z] t)) := by
  subst ht
  exact ⟨below1 W _, Nat.le_refl _, ints_nil _ _, intsLit W [z] (by simp) (by simp), ints_nil _ _, (Dj.nil _).symm, Dj.nil _, Dj.nil _⟩
end
/-- What the lists hold. -/
structure RO (es : List E3) (n : Nat) (z : Int) (r m : List Int) : Prop where
  r1 : ∀ x ∈ r, Rch es z x
  m1 : ∀ x ∈ m, x = z ∨ Rch es z x
  c : r.length + cntF n (fun i => !decide ((i : Int) ∈ r)) ≤ n
theorem RO.len {es : List E3} {n : Nat} {z : Int} {r m : List Int} (h : RO es n z r m) : r.length ≤ n := by have := h.c; omega
theorem RO.rch {es : List E3} {n : Nat} {z : Int} {r m : List Int} (h : RO es n z r m) {e : E3} (he : e ∈ es) (hm : e.1 ∈ m) : Rch es z e.2.2 := by
  rcases h.m1 _ hm with h1 | h1
  · exact .one he h1
  · exact .more h1 he rfl
theorem RO.add {es : List E3} {n : Nat} {z : Int} {r m : List Int} (h : RO es n z r m) {e : E3} (he : e ∈ es) (hm : e.1 ∈ m) (hr : e.2.2 ∉ r) {L : Int} (hok : okE L (n : Int) e = true) : RO es n z (r ++ [e.2.2]) m := by
  refine ⟨fun x hx => ?_, h.m1, ?_⟩
  · rcases List.mem_append.1 hx with hx | hx
    · exact h.r1 x hx
    · rw [List.mem_singleton.1 hx]; exact h.rch he hm
  · have hc := h.c
    obtain ⟨-, h2, -, h4⟩ := okE_st hok
    have hl : cntF n (fun i => !decide ((i : Int) ∈ r ++ [e.2.2])) < cntF n (fun i => !decide ((i : Int) ∈ r)) := by
      refine filter_less _ (fun x _ hx => ?_) ⟨e.2.2.toNat, List.mem_range.2 h2, ?_⟩
      · simp only [Bool.not_eq_true', decide_eq_false_iff_not] at hx ⊢
        exact fun hh => hx (List.mem_append_left _ hh)
      · rw [← h4, decide_eq_true (List.mem_append_right _ List.mem_cons_self), decide_eq_false hr]; decide
    rw [List.length_append, List.length_singleton]
    omega
theorem RO.start (es : List E3) (n : Nat) (z : Int) : RO es n z [] [z] :=
  ⟨fun x hx => (by cases hx), fun x hx => .inl (List.mem_singleton.1 hx), by have := cntF_le n (fun i => !decide ((i : Int) ∈ ([] : List Int))); simpa using this⟩
end Go.Proofs.YthhbbiafffpknaaDoor

namespace Go.Proofs.YthhbbiafffpknaaDoor
open Go.RowKit
set_option linter.unusedSimpArgs false
set_option linter.unusedVariables false

/-- The library's table. -/
abbrev TabD (W : World) : Prop := TabAt 0 Lib.deBruijn64tab W
theorem TabD.keep {W W' : World} (h : TabD W) (hb : Below W.heap.size W W') : TabD W' := fun j hj => cell_keep (h j hj) hb
set_option maxRecDepth 100000 in
set_option maxHeartbeats 1600000 in
theorem tz_core (x k idx : Nat) (w : World) (hx0 : ((x : Int) == 0) = false)
    (key : IntKind.u64.wrap (bits BinOp.and IntKind.u64 (x : Int) (IntKind.u64.wrap (-(x : Int))) * 285870213051353865) / 288230376151711744 = (idx : Int))
    (hi : idx < 64) (hk : k < 64) (hcell : w.cell? ⟨0, idx, none⟩ = some (.int .u8 k)) :
    Calls Tryd.prog 67 #[.int .u64 x] w fun e w' => e = .returned (.int .i64 k) ∧ w' = w := by
  go_enter Tryd.func67, Tryd.ntmps67
  go_wp2_with (simp only [key])
  go_ret
  exact ⟨rfl, rfl⟩
theorem tz_any (S : Nat) (h0 : S ≠ 0) (h : S < 18446744073709551616) (w : World) (hT : TabD w) :
    Calls Tryd.prog 67 #[.int .u64 (S : Int)] w fun e w' => e = .returned (.int .i64 ((Lib.ctz 64 S : Nat) : Int)) ∧ w' = w := by
  obtain ⟨hlow, hk⟩ := Lib.lowest_bit 64 S h0 h
  obtain ⟨hi, htab⟩ := Lib.deBruijn64_at _ hk
  have hcell := hT _ hi
  rw [htab] at hcell
  exact tz_core S _ _ w (by simp; omega) (tz64_key S _ h h0 hlow) hi hk hcell
/-- 1 shifted. -/
theorem pow_lt64 {s : Nat} (h : s < 64) : 2 ^ s < 18446744073709551616 := by
  have h2 : 2 ^ s < 2 ^ 64 := Nat.pow_lt_pow_right (by decide) h
  exact h2
theorem pow_le64 {s : Nat} (h : s ≤ 64) : 2 ^ s ≤ 18446744073709551616 := by
  have h2 : 2 ^ s ≤ 2 ^ 64 := Nat.pow_le_pow_right (by decide) h
  exact h2
theorem shl_one (s : Nat) (h : s < 64) : IntKind.u64.wrap ((2 : Int) ^ s) = ((2 ^ s : Nat) : Int) := by
  have h2 := pow_lt64 h
  have e : ((2 : Int) ^ s) = ((2 ^ s : Nat) : Int) := by norm_cast
  rw [IntKind.wrap_u64, e]
  generalize 2 ^ s = y at *
  omega
/-- The set of some states. -/
def ofN (l : List Int) : Nat := l.foldl (fun S s => S ||| 2 ^ s.toNat) 0
theorem ofN_snoc (l : List Int) (s : Int) : ofN (l ++ [s]) = ofN l ||| 2 ^ s.toNat := by unfold ofN; rw [List.foldl_append]; rfl
theorem or_lt64 {a b : Nat} (ha : a < 18446744073709551616) (hb : b < 18446744073709551616) : a ||| b < 18446744073709551616 := Nat.or_lt_two_pow (n := 64) ha hb
theorem ofN_lt : ∀ (l : List Int) (i : Nat), (∀ s ∈ l, 0 ≤ s ∧ s < 64) → ofN (l.take i) < 18446744073709551616
  | l, 0, _ => by rw [List.take_zero]; show 0 < _; decide
  | l, i + 1, h => by
    cases hx : l[i]? with
    | none =>
      have hl := List.getElem?_eq_none_iff.1 hx
      have e : l.take (i + 1) = l.take i := by rw [List.take_of_length_le (by omega), List.take_of_length_le hl]
      rw [e]
      exact ofN_lt l i h
    | some x =>
      rw [take_snoc hx, ofN_snoc]
      have := h x (List.mem_of_getElem? hx)
      exact or_lt64 (ofN_lt l i h) (pow_lt64 (by omega))
theorem clr_op {S : Nat} (h0 : S ≠ 0) (h : S < 18446744073709551616) : bits .and .u64 (S : Int) (IntKind.u64.wrap ((S : Int) - 1)) = ((clr S : Nat) : Int) := by
  have e : IntKind.u64.wrap ((S : Int) - 1) = ((S - 1 : Nat) : Int) := by rw [IntKind.wrap_u64]; omega
  rw [e, bits_and_u64_nat S _ h (by omega)]
  rfl
set_option maxRecDepth 100000 in
set_option maxHeartbeats 1600000 in
theorem setOf_any (l : List Int) (v : Value) (w : World) (hrd : IntsRd w v l) (h : ∀ s ∈ l, 0 ≤ s ∧ s < 64) (hn : l.length ≤ 100000) :
    Calls Tryd.prog 24 #[v] w fun e w' => e = .returned (.int .u64 ((ofN l : Nat) : Int)) ∧ Below w.heap.size w w' := by
  have HL := Lib.hid h
  have HR := Lib.hid hrd
  obtain ⟨a, c, rfl⟩ := hrd.form
  clear h hrd
  go_enter Tryd.func24, Tryd.ntmps24
  go_wp2_with fail
  go_loopg [3, 8] l.length (fun q s3 s8 wx => ∃ i : Nat, i + q = l.length ∧ s8 = .int .i64 (i : Int) ∧ s3 = .int .u64 ((ofN (l.take i) : Nat) : Int) ∧ Below w.heap.size w wx)
  case atStart => exact ⟨0, by omega, rfl, rfl, Below.refl _ _⟩
  case round =>
    obtain ⟨i, hin, rfl, rfl, hb⟩ := hrel
    rcases gk with _ | q
    · obtain rfl : i = l.length := by omega
      have HE := Lib.hid (List.take_length (l := l))
      go_wp2_with fail
      go_ret
      exact ⟨by rw [HE.out]; rfl, hb⟩
    · obtain ⟨x, hx⟩ : ∃ x, l[i]? = some x := ⟨_, List.getElem?_eq_getElem (by omega)⟩
      obtain ⟨x0, x1⟩ := HL.out x (List.mem_of_getElem? hx)
      obtain ⟨b, off, cc, hv, k1⟩ := (HR.out.keep hb).at hx
      injection hv with e1 e2 e3
      subst e1
      have HT := Lib.hid (take_snoc hx)
      obtain ⟨s, rfl⟩ : ∃ m : Nat, x = (m : Int) := ⟨x.toNat, by omega⟩
      have hs : s < 64 := by omega
      have H1 := Lib.hid (shl_one s hs)
      have H2 := Lib.hid (bits_or_u64_nat (ofN (l.take i)) (2 ^ s) (ofN_lt l i HL.out) (pow_lt64 hs))
      have H3 := Lib.hid (ofN_snoc (l.take i) (s : Int))
      have j1 : (i : Int) < (l.length : Int) := by omega
      clear hx e2 e3 x1
      generalize ofN (l.take i) = S at *
      go_wp2_with fail
      go_roundg q
      case measure => omega
      case rel => exact ⟨i + 1, by omega, by go_num, by rw [H1.out, H2.out, HT.out, H3.out, Int.toNat_natCast], hb⟩
/-- The set of all states. -/
def fullN (n : Nat) : Nat := 2 ^ n - 1
theorem fullN_lt {n : Nat} (h : n ≤ 64) : fullN n < 18446744073709551616 := by
  have := pow_le64 h
  have h3 : 0 < 2 ^ n := Nat.two_pow_pos n
  unfold fullN; omega
theorem fullN_bit (n i : Nat) : (fullN n).testBit i = decide (i < n) := Nat.testBit_two_pow_sub_one n i
theorem every_op {n : Nat} (h : n ≤ 64) : IntKind.u64.wrap (IntKind.u64.wrap ((2 : Int) ^ n) - 1) = ((fullN n : Nat) : Int) := by
  have h2 := pow_le64 h
  have h3 : 0 < 2 ^ n := Nat.two_pow_pos n
  have e : ((2 : Int) ^ n) = ((2 ^ n : Nat) : Int) := by norm_cast
  rw [IntKind.wrap_u64, IntKind.wrap_u64, e]
  unfold fullN
  generalize 2 ^ n = y at *
  omega
set_option maxRecDepth 100000 in
theorem every_any (La : Int) (n : Nat) (v : Value) (w : World) (hn : n ≤ 64) : Calls Tryd.prog 20 #[grV La (n : Int) v] w fun e w' => e = .returned (.int .u64 ((fullN n : Nat) : Int)) ∧ Below w.heap.size w w' := by
  have HE := Lib.hid (every_op hn)
  go_enter Tryd.func20, Tryd.ntmps20
  go_wp2
  go_ret
  exact ⟨by rw [HE.out]; rfl, below1 w _⟩
set_option maxRecDepth 100000 in
set_option maxHeartbeats 3200000 in
theorem memb_any (S : Nat) (w : World) (hS : S < 18446744073709551616) (hT : TabD w) : Calls Tryd.prog 56 #[.int .u64 (S : Int)] w (NewInts w (memN S)) := by
  obtain ⟨i0, hi, hz0, hz1, hz2⟩ := info_parts Tryd.infoI64
  have HT := Lib.hid hT
  have HF := Lib.hid (fromN_start hS)
  clear hT hS
  go_enter Tryd.func56, Tryd.ntmps56
  go_wp2_with fail
  go_loopg [0, 3] 64 (fun q s0 s3 wx => ∃ c cur : Nat, c + q = 64 ∧ s0 = .int .u64 (cur : Int) ∧ Hid (fromN S c cur) ∧ IntsAt wx w.heap.size s3 (mems c S.testBit) ∧ Below w.heap.size w wx)
  case atStart => exact ⟨0, S, by omega, rfl, HF, ints_nil _ _, Below.refl _ _⟩
  case round =>
    clear HF
    obtain ⟨c, cur, hcq, rfl, HF, hown, hb⟩ := hrel
    obtain ⟨a3, c3, rfl⟩ := hown.slice
    by_cases h0 : cur = 0
    · subst h0
      have HI := Lib.hid hown
      have HE := Lib.hid (fromN_end HF.out (by omega))
      clear hown HF
      obtain ⟨m, hm⟩ : ∃ m, (mems c S.testBit).length = m := ⟨_, rfl⟩
      rw [hm] at HI ⊢
      clear hm
      go_wp2_with fail
      go_ret
      exact ⟨_, rfl, by unfold memN; rw [HE.out]; exact HI.out, hb⟩
    · have j0 : ((cur : Int) != 0) = true := by rw [bne_iff_ne]; omega
      obtain ⟨f1, f2, f3, f4⟩ := fromN_ctz HF.out h0
      have HTZ := Lib.hid (tz_any cur h0 HF.out.1)
      have HS := Lib.hid (fromN_mems HF.out h0)
      have HC := Lib.hid (clr_op h0 HF.out.1)
      have HF2 := Lib.hid (fromN_step HF.out h0)
      generalize Lib.ctz 64 cur = k at *
      have hml := mems_len c S.testBit
      have hlt := hown.lt
      have hown0 := hown
      unfold IntsAt at hown0
      obtain ⟨m, hm⟩ : ∃ m, (mems c S.testBit).length = m := ⟨_, rfl⟩
      rw [hm] at hown0 hml hlt ⊢
      have HM := Lib.hid hm
      clear hown hm HF f3 f4
      go_wp2_with (first
        | (go_at_call 67; (with_reducible refine (HTZ.out wr (HT.out.keep (by first | exact hb.mono (by exact Nat.le_refl _) | exact hb))).mono ?_); rintro e W1 ⟨rfl, hW1⟩; (rw [hW1]); (clear hW1))
        | (at_builtin; refine wpList_append_own_at _ rfl _ _ 25 rfl w.heap.size 3 i0 (.int .i64 0) 1 8 Tryd.underlying25 hi hz0 hz1 hz2 rfl (by decide) _ _ _ rfl (hown0.alloc _) ⟨wr.heap.size, 0, none⟩ 1 1 [.int .i64 (k : Int)] rfl rfl ?c1 ?c2 ?c3 ?c4 ?c5 ?_))
      case c1 => exact World.news_of_block (cs := #[.int .i64 (k : Int)]) (t := 3) (fr := (0, 0)) (heap_alloc_new wr _)
      case c2 => intro u hu; simp at hu; subst hu; rfl
      case c3 => unfold maxLen; omega
      case c4 => omega
      case c5 => rw [World.size_alloc]; have := hb.size; omega
      intro v' W2 hown2 hgrow _ hv'
      have hb2 : Below w.heap.size w W2 := (hb.alloc hb.size _).grown hgrow (by rw [World.size_alloc]; have := hb.size; omega) (fun k hk => (hlt k hk).1)
      rw [← intz_snoc, ← HS.out] at hown2
      have HI2 := Lib.hid (show IntsAt W2 w.heap.size v' (mems (k + 1) S.testBit) by unfold IntsAt; rw [HS.out, List.length_append, HM.out]; rw [HS.out] at hown2; exact hown2)
      obtain ⟨a', c', rfl⟩ := own_slice hown2
      clear hown0 hown2 hgrow hlt hv' hb
      go_wp2_with fail
      go_roundg (64 - (k + 1))
      case measure => omega
      case rel => exact ⟨k + 1, clr cur, by omega, by rw [HC.out], HF2, HI2.out, hb2⟩
end Go.Proofs.YthhbbiafffpknaaDoor
