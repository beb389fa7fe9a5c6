/- What groovelaw09.awake returns: true. No condition. What slices.Contains of integers returns. Condition: the length is one of a slice. What the law's search for what is reached keeps: three rows of integers of its own; what they hold. No condition. -/
import Derived.Test.YtblkijdodojaeaaDoorQ09
import Derived.Test.YtblkijdodojaeaaDoorQ07
import Derived.Test.YtblkijdodojaeaaDoorQ06

namespace Go.Proofs.YtblkijdodojaeaaDoor
open Go.RowKit
set_option linter.unusedSimpArgs false
set_option linter.unusedVariables false

abbrev gE : List E3 := [(0, 0, 0), (0, 1, 1), (1, 0, 0)]
abbrev mE : List E3 := [(0, 0, 0), (0, 1, 1), (1, 0, 0), (1, 1, 2)]
theorem edgesLit (W : World) (es : List E3) (h0 : 0 < es.length) (hl : es.length ≤ 1000) : EdgesAt (W.alloc (.cells (ecl es).toArray 63)) W.heap.size (.slice (some ⟨W.heap.size, 0, none⟩) es.length es.length) es :=
  ⟨by rw [ecl_len], .inr ⟨W.heap.size, es.length, (ecl es).toArray, rfl, Nat.le_refl _, heap_alloc_new W _, Nat.le_refl _, by unfold maxLen; omega, by rw [List.size_toArray, ecl_len], by
    show (ecl es).take (es.length * 3) = _; rw [← ecl_len, List.take_length]⟩⟩
theorem intsLit (W : World) (l : List Int) (h0 : 0 < l.length) (hl : l.length ≤ 1000) : IntsAt (W.alloc (.cells (intz l).toArray 3)) W.heap.size (.slice (some ⟨W.heap.size, 0, none⟩) l.length l.length) l :=
  ⟨by rw [intz_len, Nat.mul_one], .inr ⟨W.heap.size, l.length, (intz l).toArray, rfl, Nat.le_refl _, heap_alloc_new W _, Nat.le_refl _, by unfold maxLen; omega, by rw [List.size_toArray, intz_len, Nat.mul_one], by
    rw [Nat.mul_one]; show (intz l).take l.length = _; rw [← intz_len, List.take_length]⟩⟩
/-- slices.Equal of two lists of integers. -/
theorem intsEq_any {W : World} {v v' : Value} {l m : List Int} (h : IntsRd W v l) (h' : IntsRd W v' m) (hl : l.length ≤ 1000000) (hm : m.length ≤ 9223372036854775807) :
    Calls Tryd.prog 13 #[v, v'] W fun e w' => e = .returned (.bool (decide (l = m))) ∧ Below W.heap.size W w' := by
  rcases Nat.eq_zero_or_pos l.length with h0 | h0
  · obtain ⟨a, c, rfl⟩ := h.form
    obtain ⟨a', c', rfl⟩ := h'.form
    obtain rfl : l = [] := List.eq_nil_of_length_eq_zero h0
    refine (Tryd.slices_Equal_int_empty a a' c m.length c' W hm).mono ?_
    rintro e w' ⟨rfl, rfl⟩
    refine ⟨?_, Below.refl _ _⟩
    congr 2
    rw [decide_eq_decide]
    constructor
    · intro h; exact (List.eq_nil_of_length_eq_zero h).symm
    · rintro rfl; rfl
  · obtain ⟨b1, o1, c1, rfl, -⟩ := h.at (List.getElem?_eq_getElem h0)
    rcases Nat.eq_zero_or_pos m.length with h1 | h1
    · obtain ⟨a', c', rfl⟩ := h'.form
      obtain rfl : m = [] := List.eq_nil_of_length_eq_zero h1
      have hne : ¬ l = [] := fun e => by rw [e] at h0; exact absurd h0 (by decide)
      have HE := Lib.hid (show decide (l = []) = false from decide_eq_false hne)
      have d1 : ((l.length : Int) != 0) = true := by simp; omega
      clear h h' hne h0
      go_enter Tryd.func13, Tryd.ntmps13
      go_wp2_with fail
      go_ret
      exact ⟨by rw [HE.out]; rfl, Below.refl _ _⟩
    · obtain ⟨b2, o2, c2, rfl, -⟩ := h'.at (List.getElem?_eq_getElem h1)
      have hc : ∀ {b o c : Nat} {k : List Int}, IntsRd W (.slice (some ⟨b, o, none⟩) k.length c) k → ∀ j, j < k.length → W.cell? ⟨b, o + j, none⟩ = some (.int .i64 (k.getD j 0)) := fun hh j hj => by
        obtain ⟨b9, o9, c9, hv, k9⟩ := hh.at (List.getElem?_eq_getElem hj)
        injection hv with e1 e2 e3
        injection e1 with e1
        injection e1 with e1 e4
        subst e1
        subst e4
        rw [k9, List.getD_eq_getElem?_getD, List.getElem?_eq_getElem hj]; rfl
      refine (Tryd.slices_Equal_int b1 o1 l.length c1 b2 o2 m.length c2 l m W (Nat.le_refl _) (Nat.le_refl _) (by omega) hm (hc h) (hc h')).mono ?_
      rintro e w' ⟨rfl, q, rfl⟩
      refine ⟨?_, below_drewM (Below.refl _ _) q⟩
      rw [List.take_length, List.take_length]
      congr 2
      rw [Bool.eq_iff_iff, beq_iff_eq, decide_eq_true_iff]
theorem vgG : VG 2 2 gE := chkG_zero (by decide)
theorem vgM : VG 2 3 mE := chkG_zero (by decide)
theorem essM {f : Nat → Bool} (h : Ess 3 mE f) : mems 3 f = [0, 1] := by
  have h2 : f 2 = false := by
    rw [← h.fix 2 (by decide)]
    unfold passF leftF bothF
    simp
  have hT : Closed 3 mE (fun i => decide (i < 2)) := fun i hi h => by
    have : i = 0 ∨ i = 1 := by simp at h; omega
    rcases this with rfl | rfl <;> decide
  have h0 := h.most _ hT 0 (by decide) (by decide)
  have h1 := h.most _ hT 1 (by decide) (by decide)
  unfold mems
  rw [show List.range 3 = [0, 1, 2] from rfl, List.filter_cons, h0, List.filter_cons, h1, List.filter_cons, h2]
  rfl
theorem awk_det (W : World) (v : Value) (h : EdgesRd W v gE) : Calls Tryd.prog 60 #[grV 2 2 v] W fun e w' => e = .returned (.tuple #[.bool true, .int .i64 0]) ∧ Below W.heap.size W w' := by
  have k := deterministic_any 2 2 gE v W h (by decide)
  rw [show detR 2 2 gE = (true, 0) by decide] at k
  exact k
theorem ecl_enc {es : List E3} {q r : Nat} {u : Value} (hq : q < es.length) (hr : r < 3) (h : (ecl es)[q * 3 + r]? = some u) : (encE es[q]!)[r]? = some u := by
  have e0 : es[q]? = some es[q] := List.getElem?_eq_getElem hq
  have e1 : es[q]! = es[q] := by rw [List.getElem!_eq_getElem?_getD, e0]; rfl
  obtain ⟨k0, k1, k2⟩ := ecl_at e0
  rw [e1]
  rcases (show r = 0 ∨ r = 1 ∨ r = 2 by omega) with rfl | rfl | rfl
  · exact k0.symm.trans h
  · exact k1.symm.trans h
  · exact k2.symm.trans h
theorem awk_eq (W : World) (v1 : Value) (B : Nat) (h1 : IntsAt W B v1 [0, 1]) : Calls Tryd.prog 13 #[v1, .slice (some ⟨W.heap.size, 0, none⟩) 2 2] (W.alloc (.cells #[.int .i64 0, .int .i64 1] 3)) fun e w' => e = .returned (.bool true) ∧ Below W.heap.size W w' := by
  have k2 := intsLit W [0, 1] (by decide) (by decide)
  have k := intsEq_any (IntsAt.rd (h1.keep (below1 W (.cells #[.int .i64 0, .int .i64 1] 3)))) (IntsAt.rd k2) (by decide) (by decide)
  refine k.mono ?_
  rintro e w' ⟨rfl, hb⟩
  exact ⟨rfl, below_more (below1 W _) (Nat.le_refl _) hb⟩
end Go.Proofs.YtblkijdodojaeaaDoor

namespace Go.Proofs.YtblkijdodojaeaaDoor
open Go.RowKit
set_option linter.unusedSimpArgs false
set_option linter.unusedVariables false

end Go.Proofs.YtblkijdodojaeaaDoor

namespace Go.Proofs.YtblkijdodojaeaaDoor
open Go.RowKit
set_option linter.unusedSimpArgs false
set_option linter.unusedVariables false

/-- Two rows that share no block. -/
def Dj (v v' : Value) : Prop := ∀ k, v.ownBlock = some k → v'.ownBlock = some k → False
theorem Dj.symm {v v' : Value} (h : Dj v v') : Dj v' v := fun k h1 h2 => h k h2 h1
theorem Dj.or {v v' : Value} (h : Dj v v') : v.ownBlock = none ∨ v.ownBlock ≠ v'.ownBlock := by
  cases e : v.ownBlock with
  | none => exact .inl rfl
  | some k => exact .inr (fun e' => h k e e'.symm)
theorem Dj.nil (v : Value) : Dj v (.slice none 0 0) := fun k _ h => by simp [Value.ownBlock] at h
structure LP (B : Nat) (A : World) (s t u : Value) (r m x : List Int) (W : World) : Prop where
  b : Below B A W
  le : B ≤ A.heap.size
  r : IntsAt W B s r
  m : IntsAt W B t m
  x : IntsAt W B u x
  st : Dj s t
  su : Dj s u
  tu : Dj t u
section
variable {B : Nat} {A W W' : World} {s t u s' : Value} {r m x r' : List Int} {o : Obj}
theorem LP.sz (h : LP B A s t u r m x W) : B ≤ W.heap.size := Nat.le_trans h.le h.b.size
theorem LP.keep (h : LP B A s t u r m x W) (hb : Below W.heap.size W W') : LP B A s t u r m x W' :=
  ⟨h.b.trans (hb.mono h.sz), h.le, h.r.keep hb, h.m.keep hb, h.x.keep hb, h.st, h.su, h.tu⟩
theorem dj_app {k0 : Nat} {v v' a : Value} (h : Dj v a) (hv : v'.ownBlock = v.ownBlock ∨ v'.ownBlock = some k0) (hl : ∀ k, a.ownBlock = some k → k < k0) : Dj v' a := fun k h1 h2 => by
  rcases hv with hv | hv
  · exact h k (hv.symm.trans h1) h2
  · rw [hv] at h1
    injection h1 with h1
    have := hl k h2
    omega
theorem LP.app (h : LP B A s t u r m x W) (hg : (W.alloc o).grownBy W' s.ownBlock) (hr : IntsAt W' B s' r') (hv : s'.ownBlock = s.ownBlock ∨ s'.ownBlock = some (W.heap.size + 1)) : LP B A s' t u r' m x W' := by
  have hz := h.sz
  refine ⟨(h.b.alloc hz o).grown hg (by rw [World.size_alloc]; omega) (fun k hk => (h.r.lt k hk).1), h.le, hr, World.ownsRow.kept (World.ownsRow.alloc h.m o) hg h.st.symm.or, World.ownsRow.kept (World.ownsRow.alloc h.x o) hg h.su.symm.or, ?_, ?_, h.tu⟩
  · exact dj_app h.st hv (fun k hk => Nat.lt_succ_of_lt (h.m.lt k hk).2)
  · exact dj_app h.su hv (fun k hk => Nat.lt_succ_of_lt (h.x.lt k hk).2)
theorem LP.turn (h : LP B A s t u r m x W) : LP B A u t s x m r W := ⟨h.b, h.le, h.x, h.m, h.r, h.tu.symm, h.su.symm, h.st.symm⟩
/-- What was next is now. -/
theorem LP.next (h : LP B A s t u r m x W) : LP B A s u (.slice none 0 0) r x [] W := ⟨h.b, h.le, h.r, h.x, ints_nil _ _, h.su, Dj.nil _, Dj.nil _⟩
theorem LP.reset (h : LP B A s t u r m x W) : LP B A s t (.slice none 0 0) r m [] W := ⟨h.b, h.le, h.r, h.m, ints_nil _ _, h.st, Dj.nil _, Dj.nil _⟩
theorem LP.start (W : World) (z : Int) (t : TypeId) (ht : t = 3) : LP W.heap.size W (.slice none 0 0) (.slice (some ⟨W.heap.size, 0, none⟩) 1 1) (.slice none 0 0) [] [z] [] (W.alloc (.cells #[.int .i64 z] t)) := by
  subst ht
  exact ⟨below1 W _, Nat.le_refl _, ints_nil _ _, intsLit W [z] (by simp) (by simp), ints_nil _ _, (Dj.nil _).symm, Dj.nil _, Dj.nil _⟩
end
/-- What the lists hold. -/
structure RO (es : List E3) (n : Nat) (z : Int) (r m : List Int) : Prop where
  r1 : ∀ x ∈ r, Rch es z x
  m1 : ∀ x ∈ m, x = z ∨ Rch es z x
  c : r.length + cntF n (fun i => !decide ((i : Int) ∈ r)) ≤ n
theorem RO.len {es : List E3} {n : Nat} {z : Int} {r m : List Int} (h : RO es n z r m) : r.length ≤ n := by have := h.c; omega
theorem RO.rch {es : List E3} {n : Nat} {z : Int} {r m : List Int} (h : RO es n z r m) {e : E3} (he : e ∈ es) (hm : e.1 ∈ m) : Rch es z e.2.2 := by
  rcases h.m1 _ hm with h1 | h1
  · exact .one he h1
  · exact .more h1 he rfl
theorem RO.add {es : List E3} {n : Nat} {z : Int} {r m : List Int} (h : RO es n z r m) {e : E3} (he : e ∈ es) (hm : e.1 ∈ m) (hr : e.2.2 ∉ r) {L : Int} (hok : okE L (n : Int) e = true) : RO es n z (r ++ [e.2.2]) m := by
  refine ⟨fun x hx => ?_, h.m1, ?_⟩
  · rcases List.mem_append.1 hx with hx | hx
    · exact h.r1 x hx
    · rw [List.mem_singleton.1 hx]; exact h.rch he hm
  · have hc := h.c
    obtain ⟨-, h2, -, h4⟩ := okE_st hok
    have hl : cntF n (fun i => !decide ((i : Int) ∈ r ++ [e.2.2])) < cntF n (fun i => !decide ((i : Int) ∈ r)) := by
      refine filter_less _ (fun x _ hx => ?_) ⟨e.2.2.toNat, List.mem_range.2 h2, ?_⟩
      · simp only [Bool.not_eq_true', decide_eq_false_iff_not] at hx ⊢
        exact fun hh => hx (List.mem_append_left _ hh)
      · rw [← h4, decide_eq_true (List.mem_append_right _ List.mem_cons_self), decide_eq_false hr]; decide
    rw [List.length_append, List.length_singleton]
    omega
theorem RO.start (es : List E3) (n : Nat) (z : Int) : RO es n z [] [z] :=
  ⟨fun x hx => (by cases hx), fun x hx => .inl (List.mem_singleton.1 hx), by have := cntF_le n (fun i => !decide ((i : Int) ∈ ([] : List Int))); simpa using this⟩
end Go.Proofs.YtblkijdodojaeaaDoor
