/- What strings.Builder's WriteString and Len return, as a loop over a function wants them: what is no cells is as it was. Condition: lengths of at most 10^9. The text of a polynomial tells it. Plain facts; no condition. What polynomial.term returns: the text of a term. Condition: at most 10^5 digits to the base 2^32. -/
import Derived.Test.YtgcogpfmhmmgdaaGreatDoorQ08
import Derived.Test.YtgcogpfmhmmgdaaGreatDoorQ13
import Derived.RangeFuncOwn
import Derived.Shelf.Strings.BuilderK
import Derived.Test.YtgcogpfmhmmgdaaGreatDoorQ03
import Derived.RangeFuncWrites
import Derived.Test.YtgcogpfmhmmgdaaGreatDoorQ32
import Derived.Test.YtgcogpfmhmmgdaaGreatDoorQ22
import Derived.Test.YtgcogpfmhmmgdaaGreatDoorQ34

namespace Go.Proofs.YtgcogpfmhmmgdaaGreatDoor
open Go.RowKit Go.Shelf
set_option linter.unusedSimpArgs false
set_option linter.unusedVariables false

theorem check_k (B b : Nat) (bs : List Value) (w : World) (h : Bld B b bs w) :
    Calls Tryz.prog 85 #[.pointer (some ⟨b, 0, none⟩)] w fun e w' => e = .returned (.tuple #[]) ∧ BldAt B b bs w' ∧ (Below B w w' ∧ KeepT w w') ∧ KeepsOthers w w' := by
  rcases h with h | h
  · refine (check_new b w h.cell0 h.shape h.frozen0).mono ?_
    rintro e w' ⟨rfl, rfl⟩
    obtain ⟨_, v, hbk, _⟩ := id h
    exact ⟨rfl, h.used _, ⟨(Below.refl B w).setCell (p := ⟨b, 0, none⟩) h.1 _, KeepT.set hbk _⟩, KeepsOthers.setCell _ _ _⟩
  · refine (check_old b w h.cell0).mono ?_
    rintro e w' ⟨rfl, rfl⟩
    exact ⟨rfl, h, ⟨Below.refl B _, KeepT.refl _⟩, KeepsOthers.refl _⟩
set_option maxRecDepth 100000 in
set_option maxHeartbeats 3200000 in
theorem writeString_k (B b : Nat) (bs : List Value) (s : ByteArray) (w : World) (h : Bld B b bs w) (hlen : bs.length + s.size ≤ 1000000000) (hBw : B ≤ w.heap.size) :
    Calls Tryz.prog 49 #[.pointer (some ⟨b, 0, none⟩), .string s] w fun e w' => e = .returned (.tuple #[.int .i64 s.size, .nilIface]) ∧ BldAt B b (bs ++ Lib.strCells s) w' ∧ (Below B w w' ∧ KeepT w w') ∧ KeepsOthers w w' := by
  obtain ⟨i0, hi, hz0, hz1, hz2⟩ := info_parts Tryz.infoByte
  go_enter Tryz.func49, Tryz.ntmps49
  go_wp2_with fail
  refine (check_k B b bs _ h).mono ?_
  rintro e w1 ⟨rfl, ⟨hB, v, hbk, hown, hne⟩, ⟨hb1, hk1⟩, ho1⟩
  have c0 : w1.cell? ⟨b, 0, none⟩ = some (.pointer (some ⟨b, 0, none⟩)) := by rw [Lib.cell_of_heap hbk]; rfl
  have c1 : w1.cell? ⟨b, 1, none⟩ = some v := by rw [Lib.cell_of_heap hbk]; rfl
  have hs1 := hb1.size
  go_wp2_with (at_builtin; refine Lib.wpList_append_own_string _ rfl _ _ 59 9 rfl B 5 i0 Tryz.underlying59 Tryz.underlying9 hi hz0 hz1 hz2 _ _ _ rfl hown s rfl ?c3 ?c4 ?c5 ?_)
  case c3 => unfold maxLen; omega
  case c4 => omega
  case c5 => omega
  intro v' w2 hown' hgrow _
  have ho2 : KeepsOthers w1 w2 := KeepsOthers.of_grownBy hgrow (fun j o hj ho => by
    rcases hown.2 with ⟨hv, _⟩ | ⟨g, cap, cur, hv, _, hgg, _⟩
    · subst hv; simp [Value.ownBlock] at hj
    · subst hv
      simp only [Value.ownBlock, Option.some.injEq] at hj
      subst hj
      rw [hgg] at ho
      injection ho with ho
      subst ho; rfl)
  obtain ⟨hb2, hlt⟩ := bld_block hbk hgrow hne
  have d0 : w2.cell? ⟨b, 0, none⟩ = some (.pointer (some ⟨b, 0, none⟩)) := by rw [Lib.cell_of_heap hb2]; rfl
  have d1 : w2.cell? ⟨b, 1, none⟩ = some v := by rw [Lib.cell_of_heap hb2]; rfl
  have f1 : w2.frozen? ⟨b, 1, none⟩ = false := Lib.frozen_of_heap hb2 1
  obtain ⟨ao, n', cap, rfl⟩ : ∃ ao n' cap, v' = .slice ao n' cap := by
    rcases hown'.2 with ⟨hv, _⟩ | ⟨g, cap, cur, hv, _⟩
    · exact ⟨_, _, _, hv⟩
    · exact ⟨_, _, _, hv⟩
  have HO := Lib.hid ((ho1.trans ho2).trans (KeepsOthers.setCell w2 ⟨b, 1, none⟩ (.slice ao n' cap)))
  clear ho1 ho2
  go_wp2
  go_ret2
  refine ⟨rfl, Lib.BuilderAt.put hB hb2 (bs' := bs ++ Lib.strCells s) (by simpa [Lib.strCells_length] using hown') (by decide), ⟨?_, (hk1.trans (KeepT.grown hown hgrow)).trans (KeepT.set hb2 _)⟩, HO.out⟩
  exact (hb1.grown hgrow (by omega) (fun k hk => (hown.lt k hk).1)).setCell (p := ⟨b, 1, none⟩) hB _
theorem bld_len {B b : Nat} {bs : List Value} {w : World} (h : Bld B b bs w) : ∃ a c, w.cell? ⟨b, 1, none⟩ = some (.slice a bs.length c) := by
  have key : ∀ p, Lib.BuilderAt 61 5 B b p bs w → ∃ a c, w.cell? ⟨b, 1, none⟩ = some (.slice a bs.length c) := fun p h => by
    obtain ⟨_, v, hbk, hown, _⟩ := h
    rcases hown.2 with ⟨rfl, h0⟩ | ⟨g, cap, cur, rfl, _⟩
    · exact ⟨none, 0, by rw [Lib.cell_of_heap hbk, h0]; rfl⟩
    · exact ⟨_, _, by rw [Lib.cell_of_heap hbk]; rfl⟩
  rcases h with h | h
  · exact key _ h
  · exact key _ h
set_option maxRecDepth 100000 in
theorem len_any (B b : Nat) (bs : List Value) (w : World) (h : Bld B b bs w) :
    Calls Tryz.prog 51 #[.pointer (some ⟨b, 0, none⟩)] w fun e w' => e = .returned (.int .i64 (bs.length : Int)) ∧ w' = w := by
  obtain ⟨a, c, hc⟩ := bld_len h
  clear h
  go_enter Tryz.func51, Tryz.ntmps51
  go_wp2_with fail
  go_ret
  exact ⟨rfl, rfl⟩
/-- What String returns, and what it leaves as it was. -/
theorem string_k (B b : Nat) (l : List UInt8) (w : World) (h : Bld B b (Lib.byteCells l) w) (hBw : B ≤ w.heap.size) :
    Calls Tryz.prog 53 #[.pointer (some ⟨b, 0, none⟩)] w fun e w' => e = .returned (.string ⟨l.toArray⟩) ∧ Below B w w' ∧ Lib.OthersKept 5 (some b) w w' :=
  (Any.Builder_String_any_k Tryz.lays169 Tryz.Builder_Extra_169 B b l w (Lib.IsBuilderF.of h) hBw).mono (fun e w' h => ⟨h.1, h.2.2.1, h.2.2.2⟩)
theorem bld_kept {B b : Nat} {bs : List Value} {w w' : World} {row : Option Nat} (h : Bld B b bs w) (hg : w.grownBy w' row) (hr : ∀ r, row = some r → ∃ o : Obj, w.heap[r]? = some o ∧ o.isCells = false) : Bld B b bs w' := by
  have key : ∀ p, Lib.BuilderAt 61 5 B b p bs w → Lib.BuilderAt 61 5 B b p bs w' := fun p ⟨hB, v, h1, h2, h3⟩ => by
    refine ⟨hB, v, (hg.block b (heap_lt h1) (fun e => ?_)).trans h1, h2.kept hg ?_, h3⟩
    · obtain ⟨o, ho, hc⟩ := hr b e.symm
      rw [h1] at ho
      injection ho with ho
      subst ho; cases hc
    · rcases h2.2 with ⟨hv, _⟩ | ⟨g, cap, cur, hv, _, hgg, _⟩
      · subst hv; exact Or.inl rfl
      · subst hv
        refine Or.inr (fun e => ?_)
        obtain ⟨o, ho, hc⟩ := hr g e.symm
        rw [hgg] at ho
        injection ho with ho
        subst ho; cases hc
  rcases h with h | h
  · exact Or.inl (key _ h)
  · exact Or.inr (key _ h)
end Go.Proofs.YtgcogpfmhmmgdaaGreatDoor

namespace Go.Proofs.YtgcogpfmhmmgdaaGreatDoor

/-- The text of a term: its size c and its exponent e, with the digits of numbers by D. -/
def tmT (D : Nat → List UInt8) (c e : Nat) : List UInt8 :=
  if e = 0 then D c else if D c = [49] then 120 :: (if 1 < e then 94 :: D e else []) else D c ++ 42 :: 120 :: (if 1 < e then 94 :: D e else [])
/-- What stands before a term. -/
def sgn1 (first neg : Bool) : List UInt8 := if first then (if neg then [45] else []) else (if neg then [32, 45, 32] else [32, 43, 32])
/-- The text of some terms: negative or not, the size, the exponent. -/
def txt (D : Nat → List UInt8) : Bool → List (Bool × Nat × Nat) → List UInt8
  | _, [] => []
  | first, t :: r => sgn1 first t.1 ++ tmT D t.2.1 t.2.2 ++ txt D false r
/-- What the digits are. -/
structure Digs (D : Nat → List UInt8) : Prop where
  inj : ∀ m n, D m = D n → m = n
  dig : ∀ n, ∀ b ∈ D n, (48 : UInt8) ≤ b ∧ b ≤ 57
  ne : ∀ n, D n ≠ []
  one : D 1 = [49]
  zero : D 0 = [48]
def isD (b : UInt8) : Bool := decide ((48 : UInt8) ≤ b) && decide (b ≤ 57)
section
variable {D : Nat → List UInt8} (hD : Digs D)
include hD
theorem Digs.all (n : Nat) : ∀ b ∈ D n, isD b = true := fun b hb => by
  have := hD.dig n b hb
  unfold isD
  simp [this]
theorem Digs.take (n : Nat) (r : List UInt8) (h : ∀ b, r.head? = some b → isD b = false) : (D n ++ r).takeWhile isD = D n ∧ (D n ++ r).dropWhile isD = r := by
  have h1 := hD.all n
  generalize D n = l at *
  induction l with
  | nil =>
    cases r with
    | nil => exact ⟨rfl, rfl⟩
    | cons b r => have := h b rfl; simp [this]
  | cons x l ih =>
    have hx := h1 x List.mem_cons_self
    obtain ⟨i1, i2⟩ := ih fun b hb => h1 b (List.mem_cons_of_mem _ hb)
    rw [List.cons_append, List.takeWhile_cons, List.dropWhile_cons, hx]
    simp [i1, i2]
theorem Digs.only (n : Nat) : (D n).takeWhile isD = D n ∧ (D n).dropWhile isD = [] := by
  have := hD.take n [] (fun b h => by cases h)
  rwa [List.append_nil] at this
theorem pw_inj {e e' : Nat} (h0 : e ≠ 0) (h0' : e' ≠ 0) (h : (if 1 < e then 94 :: D e else []) = (if 1 < e' then 94 :: D e' else ([] : List UInt8))) : e = e' := by
  by_cases h1 : 1 < e
  · rw [if_pos h1] at h
    by_cases h2 : 1 < e'
    · rw [if_pos h2] at h
      injection h with _ h
      exact hD.inj _ _ h
    · rw [if_neg h2] at h; cases h
  · rw [if_neg h1] at h
    by_cases h2 : 1 < e'
    · rw [if_pos h2] at h; cases h
    · omega
theorem one_iff (c : Nat) : D c = [49] ↔ c = 1 := ⟨fun h => hD.inj _ _ (h.trans hD.one.symm), fun h => by rw [h]; exact hD.one⟩
theorem tmT_inj {c e c' e' : Nat} (h : tmT D c e = tmT D c' e') : c = c' ∧ e = e' := by
  have n120 : isD 120 = false := by decide
  have n42 : isD 42 = false := by decide
  -- the digits in front, and what follows
  have key : ∀ c e, ((tmT D c e).takeWhile isD, (tmT D c e).dropWhile isD) = if e = 0 then (D c, []) else if c = 1 then ([], 120 :: (if 1 < e then 94 :: D e else [])) else (D c, 42 :: 120 :: (if 1 < e then 94 :: D e else [])) := by
    intro c e
    unfold tmT
    by_cases h0 : e = 0
    · rw [if_pos h0, if_pos h0, (hD.only c).1, (hD.only c).2]
    · rw [if_neg h0, if_neg h0]
      by_cases h1 : c = 1
      · rw [if_pos ((one_iff hD c).2 h1), if_pos h1, List.takeWhile_cons, List.dropWhile_cons, n120]; rfl
      · rw [if_neg (fun h => h1 ((one_iff hD c).1 h)), if_neg h1]
        have := hD.take c (42 :: 120 :: (if 1 < e then 94 :: D e else [])) (fun b hb => by injection hb with hb; rw [← hb]; exact n42)
        rw [this.1, this.2]
  have k1 := key c e
  rw [h, key c' e'] at k1
  by_cases h0 : e = 0
  · rw [if_pos h0] at k1
    by_cases h0' : e' = 0
    · rw [if_pos h0'] at k1
      injection k1 with k1 _
      exact ⟨(hD.inj _ _ k1).symm, by omega⟩
    · rw [if_neg h0'] at k1
      split at k1 <;> (injection k1 with _ k2; cases k2)
  · rw [if_neg h0] at k1
    by_cases h0' : e' = 0
    · rw [if_pos h0'] at k1
      split at k1 <;> (injection k1 with _ k2; cases k2)
    · rw [if_neg h0'] at k1
      by_cases h1 : c = 1
      · rw [if_pos h1] at k1
        by_cases h1' : c' = 1
        · rw [if_pos h1'] at k1
          injection k1 with _ k2
          injection k2 with _ k2
          exact ⟨by omega, (pw_inj hD h0' h0 k2).symm⟩
        · rw [if_neg h1'] at k1
          injection k1 with k2 _
          exact absurd k2 (hD.ne c')
      · rw [if_neg h1] at k1
        by_cases h1' : c' = 1
        · rw [if_pos h1'] at k1
          injection k1 with k2 _
          exact absurd k2.symm (hD.ne c)
        · rw [if_neg h1'] at k1
          injection k1 with k2 k3
          injection k3 with _ k3
          injection k3 with _ k3
          exact ⟨(hD.inj _ _ k2).symm, (pw_inj hD h0' h0 k3).symm⟩
theorem tmT_bytes (c e : Nat) : ∀ b ∈ tmT D c e, b ≠ 32 ∧ b ≠ 45 := by
  have hd : ∀ n, ∀ b ∈ D n, b ≠ 32 ∧ b ≠ 45 := fun n b hb => by
    have h1 := (hD.dig n b hb).1
    constructor
    · rintro rfl; exact absurd h1 (by decide)
    · rintro rfl; exact absurd h1 (by decide)
  have hp : ∀ b ∈ (if 1 < e then 94 :: D e else ([] : List UInt8)), b ≠ 32 ∧ b ≠ 45 := by
    intro b hb
    split at hb
    · rcases List.mem_cons.1 hb with rfl | hb
      · exact ⟨by decide, by decide⟩
      · exact hd e b hb
    · cases hb
  intro b hb
  unfold tmT at hb
  split at hb
  · exact hd c b hb
  · split at hb
    · rcases List.mem_cons.1 hb with rfl | hb
      · exact ⟨by decide, by decide⟩
      · exact hp b hb
    · rcases List.mem_append.1 hb with hb | hb
      · exact hd c b hb
      · rcases List.mem_cons.1 hb with rfl | hb
        · exact ⟨by decide, by decide⟩
        · rcases List.mem_cons.1 hb with rfl | hb
          · exact ⟨by decide, by decide⟩
          · exact hp b hb
theorem tmT_ne (c e : Nat) : tmT D c e ≠ [] := by
  unfold tmT
  split
  · exact hD.ne c
  · split <;> simp
omit hD in
theorem txt_head (D : Nat → List UInt8) (l : List (Bool × Nat × Nat)) : ∀ b, (txt D false l).head? = some b → b = 32 := by
  intro b hb
  cases l with
  | nil => cases hb
  | cons t r =>
    obtain ⟨g, c, e⟩ := t
    cases g <;> simp [txt, sgn1] at hb <;> exact hb.symm
omit hD in
/-- Cut at the first space. -/
theorem cut32 {A B X Y : List UInt8} (hA : ∀ b ∈ A, b ≠ 32) (hB : ∀ b ∈ B, b ≠ 32) (hX : ∀ b, X.head? = some b → b = 32) (hY : ∀ b, Y.head? = some b → b = 32) (h : A ++ X = B ++ Y) : A = B ∧ X = Y := by
  induction A generalizing B with
  | nil =>
    cases B with
    | nil => exact ⟨rfl, h⟩
    | cons b B =>
      exfalso
      rw [List.nil_append, List.cons_append] at h
      exact hB b List.mem_cons_self (hX b (by rw [h]; rfl))
  | cons a A ih =>
    cases B with
    | nil =>
      exfalso
      rw [List.nil_append, List.cons_append] at h
      exact hA a List.mem_cons_self (hY a (by rw [← h]; rfl))
    | cons b B =>
      rw [List.cons_append, List.cons_append] at h
      injection h with h1 h2
      obtain ⟨e1, e2⟩ := ih (fun x hx => hA x (List.mem_cons_of_mem _ hx)) (fun x hx => hB x (List.mem_cons_of_mem _ hx)) h2
      exact ⟨by rw [h1, e1], e2⟩
/-- The text tells the terms. -/
theorem txt_inj : ∀ (l m : List (Bool × Nat × Nat)) (first : Bool), txt D first l = txt D first m → l = m := by
  intro l
  induction l with
  | nil =>
    intro m first h
    cases m with
    | nil => rfl
    | cons t r =>
      exfalso
      have h2 : sgn1 first t.1 ++ tmT D t.2.1 t.2.2 ++ txt D false r = [] := h.symm
      exact tmT_ne hD _ _ (List.append_eq_nil_iff.1 (List.append_eq_nil_iff.1 h2).1).2
  | cons t l ih =>
    intro m first h
    cases m with
    | nil =>
      exfalso
      have h2 : sgn1 first t.1 ++ tmT D t.2.1 t.2.2 ++ txt D false l = [] := h
      exact tmT_ne hD _ _ (List.append_eq_nil_iff.1 (List.append_eq_nil_iff.1 h2).1).2
    | cons u m =>
      obtain ⟨g, c, e⟩ := t
      obtain ⟨g', c', e'⟩ := u
      have h' : sgn1 first g ++ (tmT D c e ++ txt D false l) = sgn1 first g' ++ (tmT D c' e' ++ txt D false m) := by
        rw [← List.append_assoc, ← List.append_assoc]; exact h
      have hg : g = g' ∧ tmT D c e ++ txt D false l = tmT D c' e' ++ txt D false m := by
        have nb := tmT_bytes hD c e
        have nb' := tmT_bytes hD c' e'
        have ne := tmT_ne hD c e
        have ne' := tmT_ne hD c' e'
        generalize tmT D c e = A at *
        generalize tmT D c' e' = B at *
        cases first
        · cases g <;> cases g' <;> simp [sgn1] at h' <;> first | exact ⟨rfl, h'⟩ | skip
        · cases g <;> cases g' <;> simp [sgn1] at h'
          · exact ⟨rfl, h'⟩
          · exfalso
            cases A with
            | nil => exact ne rfl
            | cons a A => injection h' with h1 _; exact (nb a List.mem_cons_self).2 h1
          · exfalso
            cases B with
            | nil => exact ne' rfl
            | cons b B => injection h' with h1 _; exact (nb' b List.mem_cons_self).2 h1.symm
          · exact ⟨rfl, h'⟩
      obtain ⟨rfl, h2⟩ := hg
      obtain ⟨h3, h4⟩ := cut32 (fun b hb => (tmT_bytes hD c e b hb).1) (fun b hb => (tmT_bytes hD c' e' b hb).1) (txt_head D l) (txt_head D m) h2
      obtain ⟨rfl, rfl⟩ := tmT_inj hD h3
      rw [ih m false h4]
theorem txt_nil (l : List (Bool × Nat × Nat)) (h : txt D true l = []) : l = [] := txt_inj hD l [] true h
/-- No terms have the text 0. -/
theorem txt_zero (l : List (Bool × Nat × Nat)) (hl : ∀ t ∈ l, t.2.1 ≠ 0) : txt D true l ≠ [48] := by
  intro h
  have e : txt D true [(false, 0, 0)] = [48] := by
    unfold txt
    simp [sgn1, tmT, txt, hD.zero]
  have := txt_inj hD _ _ true (h.trans e.symm)
  subst this
  exact hl _ List.mem_cons_self rfl
end
/-- The terms of a polynomial, the highest one first. -/
def tms (L : List Int) : Nat → List (Bool × Nat × Nat)
  | 0 => []
  | n + 1 => if co L n = 0 then tms L n else (decide (co L n < 0), (co L n).natAbs, n) :: tms L n
theorem tms_mem (L : List Int) (n : Nat) (g : Bool) (c i : Nat) : (g, c, i) ∈ tms L n ↔ i < n ∧ co L i ≠ 0 ∧ g = decide (co L i < 0) ∧ c = (co L i).natAbs := by
  induction n with
  | zero => exact ⟨fun h => (by cases h), fun h => (by omega)⟩
  | succ n ih =>
    unfold tms
    split
    · rename_i h0
      rw [ih]
      constructor
      · rintro ⟨h1, h2⟩; exact ⟨by omega, h2⟩
      · rintro ⟨h1, h2, h3⟩
        refine ⟨?_, h2, h3⟩
        rcases Nat.lt_or_ge i n with h4 | h4
        · exact h4
        · have : i = n := by omega
          subst this
          exact absurd h0 h2
    · rename_i h0
      rw [List.mem_cons, ih]
      constructor
      · rintro (h1 | ⟨h1, h2⟩)
        · injection h1 with e1 e2
          injection e2 with e2 e3
          subst e3
          exact ⟨by omega, h0, e1, e2⟩
        · exact ⟨by omega, h2⟩
      · rintro ⟨h1, h2, h3, h4⟩
        rcases Nat.lt_or_ge i n with h5 | h5
        · exact .inr ⟨h5, h2, h3, h4⟩
        · have : i = n := by omega
          subst this
          exact .inl (by rw [h3, h4])
theorem tms_inj {L M : List Int} {n m : Nat} (hn : L.length ≤ n) (hm : M.length ≤ m) (h : tms L n = tms M m) : ∀ i, co L i = co M i := by
  have half : ∀ (L M : List Int) (n m : Nat), L.length ≤ n → tms L n = tms M m → ∀ i, co L i ≠ 0 → co L i = co M i := by
    intro L M n m hn h i h0
    have hi : i < n := by
      rcases Nat.lt_or_ge i n with h1 | h1
      · exact h1
      · exact absurd (co_ge (show L.length ≤ i by omega)) h0
    have h1 := (tms_mem L n _ _ i).2 ⟨hi, h0, rfl, rfl⟩
    rw [h] at h1
    obtain ⟨_, h2, h3, h4⟩ := (tms_mem M m _ _ i).1 h1
    have h5 := decide_eq_decide.1 h3
    omega
  intro i
  by_cases h0 : co L i = 0
  · by_cases h1 : co M i = 0
    · rw [h0, h1]
    · exact (half M L m n hm h.symm i h1).symm
  · exact half L M n m hn h i h0
theorem tms_pos (L : List Int) (n : Nat) : ∀ t ∈ tms L n, t.2.1 ≠ 0 := by
  rintro ⟨g, c, i⟩ ht
  obtain ⟨_, h1, _, h2⟩ := (tms_mem L n g c i).1 ht
  show c ≠ 0
  omega
theorem tms_trm (L : List Int) {n m : Nat} (hn : (trm L).length ≤ n) (hm : (trm L).length ≤ m) : tms L n = tms L m := by
  have low : ∀ k, (trm L).length ≤ k → tms L k = tms L (trm L).length := by
    intro k hk
    induction k with
    | zero => rw [show (trm L).length = 0 by omega]
    | succ k ih =>
      rcases Nat.lt_or_ge k (trm L).length with h | h
      · rw [show k + 1 = (trm L).length by omega]
      · show (if co L k = 0 then tms L k else _) = _
        rw [if_pos (trm_above L h), ih h]
  rw [low n hn, low m hm]
/-- The text of a polynomial. -/
def prP (D : Nat → List UInt8) (L : List Int) : List UInt8 := if txt D true (tms L L.length) = [] then [48] else txt D true (tms L L.length)
theorem prP_inj {D : Nat → List UInt8} (hD : Digs D) {L M : List Int} (h : prP D L = prP D M) : trm L = trm M := by
  have key : tms L L.length = tms M M.length := by
    unfold prP at h
    split at h
    · rename_i h1
      split at h
      · rename_i h2
        rw [txt_nil hD _ h1, txt_nil hD _ h2]
      · exact absurd h.symm (txt_zero hD _ (tms_pos M _))
    · split at h
      · exact absurd h (txt_zero hD _ (tms_pos L _))
      · exact txt_inj hD _ _ true h
  exact trm_eq (tms_inj (Nat.le_refl _) (Nat.le_refl _) key)
end Go.Proofs.YtgcogpfmhmmgdaaGreatDoor

namespace Go.Proofs.YtgcogpfmhmmgdaaGreatDoor
open Go.RowKit
set_option linter.unusedSimpArgs false
set_option linter.unusedVariables false

theorem catb (a b : List UInt8) : (⟨a.toArray⟩ : ByteArray) ++ ⟨b.toArray⟩ = ⟨(a ++ b).toArray⟩ := by
  apply ByteArray.ext
  simp
set_option maxRecDepth 100000 in
set_option maxHeartbeats 3200000 in
theorem term_zero (v : Value) (z : Int) (k : Nat) (w : World) (h : IsInt v z k) (htab : Lib.TabIs Tryz.prog w "internal/strconv.uint64pow10" .u64 Lib.pow10Tab) :
    Calls Tryz.prog 52 #[v, .int .i64 0] w fun e w' => e = .returned (.string ⟨(prZ z).toArray⟩) ∧ Below w.heap.size w w' := by
  have H := Lib.hid h
  have HT := Lib.hid htab
  obtain ⟨g, s, rfl, -⟩ := h
  have B0 := below1 w (.cells #[.bool g, .string s] 27)
  clear htab
  go_enter Tryz.func52, Tryz.ntmps52
  go_wp2_with fail
  refine (print_any _ z k _ H.out (tab_keep HT.out B0)).mono ?_
  rintro e W1 ⟨rfl, b1⟩
  have B1 := below_more B0 (Nat.le_refl _) b1
  go_wp2
  go_ret
  exact ⟨rfl, B1⟩
set_option maxRecDepth 100000 in
set_option maxHeartbeats 3200000 in
theorem term_one (v : Value) (z : Int) (k : Nat) (w : World) (h : IsInt v z k) (htab : Lib.TabIs Tryz.prog w "internal/strconv.uint64pow10" .u64 Lib.pow10Tab) (hl : (prZ z).length ≤ 100000000) :
    Calls Tryz.prog 52 #[v, .int .i64 1] w fun e w' => e = .returned (.string ⟨(if prZ z = [49] then [120] else prZ z ++ [42, 120]).toArray⟩) ∧ Below w.heap.size w w' := by
  have H := Lib.hid h
  have HT := Lib.hid htab
  obtain ⟨g, s, rfl, -⟩ := h
  have B0 := below1 w (.cells #[.bool g, .string s] 27)
  obtain ⟨T, ET⟩ : ∃ T : List UInt8, Hid (prZ z = T) := ⟨_, Lib.hid rfl⟩
  rw [ET.out] at hl ⊢
  clear htab
  by_cases h1 : T = [49]
  · subst h1
    rw [if_pos rfl]
    go_enter Tryz.func52, Tryz.ntmps52
    go_wp2_with fail
    refine (print_any _ z k _ H.out (tab_keep HT.out B0)).mono ?_
    rw [ET.out]
    rintro e W1 ⟨rfl, b1⟩
    have B1 := below_more B0 (Nat.le_refl _) b1
    go_wp2
    go_ret
    exact ⟨rfl, B1⟩
  · rw [if_neg h1]
    have h3 : (T == [49]) = false := beq_eq_false_iff_ne.2 h1
    have HS := Lib.hid (catb T [42])
    have HS2 := Lib.hid (catb (T ++ [42]) [120])
    go_enter Tryz.func52, Tryz.ntmps52
    go_wp2_with fail
    refine (print_any _ z k _ H.out (tab_keep HT.out B0)).mono ?_
    rw [ET.out]
    rintro e W1 ⟨rfl, b1⟩
    have B1 := below_more B0 (Nat.le_refl _) b1
    go_wp2
    go_ret
    refine ⟨?_, B1⟩
    have e2 : (⟨T.toArray⟩ : ByteArray) ++ ⟨#[42]⟩ ++ ⟨#[120]⟩ = ⟨(T ++ [42, 120]).toArray⟩ := by
      rw [show (⟨#[42]⟩ : ByteArray) = ⟨[(42 : UInt8)].toArray⟩ from rfl, show (⟨#[120]⟩ : ByteArray) = ⟨[(120 : UInt8)].toArray⟩ from rfl, HS.out, HS2.out, List.append_assoc]
      rfl
    rw [← e2]
    rfl
set_option maxRecDepth 100000 in
set_option maxHeartbeats 3200000 in
theorem term_many (v : Value) (z : Int) (k d : Nat) (w : World) (h : IsInt v z k) (htab : Lib.TabIs Tryz.prog w "internal/strconv.uint64pow10" .u64 Lib.pow10Tab) (hl : (prZ z).length ≤ 100000000) (hd : 1 < d) (hd2 : d ≤ 1000000) :
    Calls Tryz.prog 52 #[v, .int .i64 (d : Int)] w fun e w' => e = .returned (.string ⟨(if prZ z = [49] then 120 :: 94 :: Lib.decDigits d else prZ z ++ 42 :: 120 :: 94 :: Lib.decDigits d).toArray⟩) ∧ Below w.heap.size w w' := by
  have H := Lib.hid h
  have HT := Lib.hid htab
  obtain ⟨g, s, rfl, -⟩ := h
  have B0 := below1 w (.cells #[.bool g, .string s] 27)
  obtain ⟨T, ET⟩ : ∃ T : List UInt8, Hid (prZ z = T) := ⟨_, Lib.hid rfl⟩
  obtain ⟨U, EU⟩ : ∃ U : List UInt8, Hid (Lib.decDigits d = U) := ⟨_, Lib.hid rfl⟩
  have hu : U.length ≤ 20 := by
    have h1 := Lib.decDigits_length d
    have h2 := nDigits_le 20 d (by omega) (by omega)
    rw [← EU.out]; omega
  rw [ET.out, EU.out]
  rw [ET.out] at hl
  have hd0 : (1 : Int) < (d : Int) := by omega
  have hd3 : ((d : Int) == 0) = false := beq_eq_false_iff_ne.2 (by omega)
  have HS0 := Lib.hid (catb [94] U)
  have HS1 := Lib.hid (catb [120] ([94] ++ U))
  have HS2 := Lib.hid (catb T [42])
  have HS3 := Lib.hid (catb (T ++ [42]) ([120] ++ ([94] ++ U)))
  clear htab
  by_cases h1 : T = [49]
  · subst h1
    rw [if_pos rfl]
    go_enter Tryz.func52, Tryz.ntmps52
    go_wp2_with fail
    refine (print_any _ z k _ H.out (tab_keep HT.out B0)).mono ?_
    rw [ET.out]
    rintro e W1 ⟨rfl, b1⟩
    have B1 := below_more B0 (Nat.le_refl _) b1
    go_wp2_with fail
    refine (Tryz.strconv_Itoa (d : Int) (by omega) (by omega) _ (tab_keep HT.out B1)).mono ?_
    rintro e W4 ⟨rfl, q, os, hw⟩
    have b4 : Below W1.heap.size W1 W4 := by rw [hw]; exact Lib.below_grow _ _ (Nat.le_refl _) _ _
    have B4 := below_more B1 (Nat.le_refl _) b4
    clear hw
    rw [Lib.itoa_nonneg, EU.out]
    go_wp2
    go_ret
    refine ⟨?_, B4⟩
    have e2 : (⟨#[120]⟩ : ByteArray) ++ (⟨#[94]⟩ ++ ⟨U.toArray⟩) = ⟨(120 :: 94 :: U).toArray⟩ := by
      rw [show (⟨#[94]⟩ : ByteArray) = ⟨[(94 : UInt8)].toArray⟩ from rfl, show (⟨#[120]⟩ : ByteArray) = ⟨[(120 : UInt8)].toArray⟩ from rfl, HS0.out, HS1.out]
      rfl
    rw [← e2]
    rfl
  · rw [if_neg h1]
    have h3 : (T == [49]) = false := beq_eq_false_iff_ne.2 h1
    go_enter Tryz.func52, Tryz.ntmps52
    go_wp2_with fail
    refine (print_any _ z k _ H.out (tab_keep HT.out B0)).mono ?_
    rw [ET.out]
    rintro e W1 ⟨rfl, b1⟩
    have B1 := below_more B0 (Nat.le_refl _) b1
    go_wp2_with fail
    refine (Tryz.strconv_Itoa (d : Int) (by omega) (by omega) _ (tab_keep HT.out B1)).mono ?_
    rintro e W4 ⟨rfl, q, os, hw⟩
    have b4 : Below W1.heap.size W1 W4 := by rw [hw]; exact Lib.below_grow _ _ (Nat.le_refl _) _ _
    have B4 := below_more B1 (Nat.le_refl _) b4
    clear hw
    rw [Lib.itoa_nonneg, EU.out]
    go_wp2
    go_ret
    refine ⟨?_, B4⟩
    have e2 : (⟨T.toArray⟩ : ByteArray) ++ ⟨#[42]⟩ ++ (⟨#[120]⟩ ++ (⟨#[94]⟩ ++ ⟨U.toArray⟩)) = ⟨(T ++ 42 :: 120 :: 94 :: U).toArray⟩ := by
      rw [show (⟨#[94]⟩ : ByteArray) = ⟨[(94 : UInt8)].toArray⟩ from rfl, show (⟨#[120]⟩ : ByteArray) = ⟨[(120 : UInt8)].toArray⟩ from rfl, show (⟨#[42]⟩ : ByteArray) = ⟨[(42 : UInt8)].toArray⟩ from rfl, HS0.out, HS1.out, HS2.out, HS3.out, List.append_assoc]
      rfl
    rw [← e2]
    rfl
end Go.Proofs.YtgcogpfmhmmgdaaGreatDoor
