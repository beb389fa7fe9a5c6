/- What the law's search for what is reached keeps: three rows of integers of its own; what they hold. No condition. -/
import Derived.Test.YtfkplnmhlpabaaaVv
import Derived.Test.YtfkplnmhlpabaaaVr
import Derived.Test.YtfkplnmhlpabaaaVwh
namespace Go.Proofs.Ytfkplnmhlpabaaa
open Go.RowKit
set_option linter.unusedSimpArgs false
set_option linter.unusedVariables false

/-- Two rows that share no block. -/
def Dj (v v' : Value) : Prop := ∀ k, v.ownBlock = some k → v'.ownBlock = some k → False
theorem Dj.symm {v v' : Value} (h : Dj v v') : Dj v' v := fun k h1 h2 => h k h2 h1
theorem Dj.or {v v' : Value} (h : Dj v v') : v.ownBlock = none ∨ v.ownBlock ≠ v'.ownBlock := by
  cases e : v.ownBlock with
  | none => exact .inl rfl
  | some k => exact .inr (fun e' => h k e e'.symm)
theorem Dj.nil (v : Value) : Dj v (.slice none 0 0) := fun k _ h => by simp [Value.ownBlock] at h
structure LP (B : Nat) (A : World) (s t u : Value) (r m x : List Int) (W : World) : Prop where
  b : Below B A W
  le : B ≤ A.heap.size
  r : IntsAt W B s r
  m : IntsAt W B t m
  x : IntsAt W B u x
  st : Dj s t
  su : Dj s u
  tu : Dj t u
section
variable {B : Nat} {A W W' : World} {s t u s' : Value} {r m x r' : List Int} {o : Obj}
theorem LP.sz (h : LP B A s t u r m x W) : B ≤ W.heap.size := Nat.le_trans h.le h.b.size
theorem LP.keep (h : LP B A s t u r m x W) (hb : Below W.heap.size W W') : LP B A s t u r m x W' :=
  ⟨h.b.trans (hb.mono h.sz), h.le, h.r.keep hb, h.m.keep hb, h.x.keep hb, h.st, h.su, h.tu⟩
theorem dj_app {k0 : Nat} {v v' a : Value} (h : Dj v a) (hv : v'.ownBlock = v.ownBlock ∨ v'.ownBlock = some k0) (hl : ∀ k, a.ownBlock = some k → k < k0) : Dj v' a := fun k h1 h2 => by
  rcases hv with hv | hv
  · exact h k (hv.symm.trans h1) h2
  · rw [hv] at h1
    injection h1 with h1
    have := hl k h2
    omega
theorem LP.app (h : LP B A s t u r m x W) (hg : (W.alloc o).grownBy W' s.ownBlock) (hr : IntsAt W' B s' r') (hv : s'.ownBlock = s.ownBlock ∨ s'.ownBlock = some (W.heap.size + 1)) : LP B A s' t u r' m x W' := by
  have hz := h.sz
  refine ⟨(h.b.alloc hz o).grown hg (by rw [World.size_alloc]; omega) (fun k hk => (h.r.lt k hk).1), h.le, hr, World.ownsRow.kept (World.ownsRow.alloc h.m o) hg h.st.symm.or, World.ownsRow.kept (World.ownsRow.alloc h.x o) hg h.su.symm.or, ?_, ?_, h.tu⟩
  · exact dj_app h.st hv (fun k hk => Nat.lt_succ_of_lt (h.m.lt k hk).2)
  · exact dj_app h.su hv (fun k hk => Nat.lt_succ_of_lt (h.x.lt k hk).2)
theorem LP.turn (h : LP B A s t u r m x W) : LP B A u t s x m r W := ⟨h.b, h.le, h.x, h.m, h.r, h.tu.symm, h.su.symm, h.st.symm⟩
/-- What was next is now. -/
theorem LP.next (h : LP B A s t u r m x W) : LP B A s u (.slice none 0 0) r x [] W := ⟨h.b, h.le, h.r, h.x, ints_nil _ _, h.su, Dj.nil _, Dj.nil _⟩
theorem LP.reset (h : LP B A s t u r m x W) : LP B A s t (.slice none 0 0) r m [] W := ⟨h.b, h.le, h.r, h.m, ints_nil _ _, h.st, Dj.nil _, Dj.nil _⟩
theorem LP.start (W : World) (z : Int) (t : TypeId) (ht : t = 3) : LP W.heap.size W (.slice none 0 0) (.slice (some ⟨W.heap.size, 0, none⟩) 1 1) (.slice none 0 0) [] [z] [] (W.alloc (.cells #[.int .i64 z] t)) := by
  subst ht
  exact ⟨below1 W _, Nat.le_refl _, ints_nil _ _, intsLit W [z] (by simp) (by simp), ints_nil _ _, (Dj.nil _).symm, Dj.nil _, Dj.nil _⟩
end
/-- What the lists hold. -/
structure RO (es : List E3) (n : Nat) (z : Int) (r m : List Int) : Prop where
  r1 : ∀ x ∈ r, Rch es z x
  m1 : ∀ x ∈ m, x = z ∨ Rch es z x
  c : r.length + cntF n (fun i => !decide ((i : Int) ∈ r)) ≤ n
theorem RO.len {es : List E3} {n : Nat} {z : Int} {r m : List Int} (h : RO es n z r m) : r.length ≤ n := by have := h.c; omega
theorem RO.rch {es : List E3} {n : Nat} {z : Int} {r m : List Int} (h : RO es n z r m) {e : E3} (he : e ∈ es) (hm : e.1 ∈ m) : Rch es z e.2.2 := by
  rcases h.m1 _ hm with h1 | h1
  · exact .one he h1
  · exact .more h1 he rfl
theorem RO.add {es : List E3} {n : Nat} {z : Int} {r m : List Int} (h : RO es n z r m) {e : E3} (he : e ∈ es) (hm : e.1 ∈ m) (hr : e.2.2 ∉ r) {L : Int} (hok : okE L (n : Int) e = true) : RO es n z (r ++ [e.2.2]) m := by
  refine ⟨fun x hx => ?_, h.m1, ?_⟩
  · rcases List.mem_append.1 hx with hx | hx
    · exact h.r1 x hx
    · rw [List.mem_singleton.1 hx]; exact h.rch he hm
  · have hc := h.c
    obtain ⟨-, h2, -, h4⟩ := okE_st hok
    have hl : cntF n (fun i => !decide ((i : Int) ∈ r ++ [e.2.2])) < cntF n (fun i => !decide ((i : Int) ∈ r)) := by
      refine filter_less _ (fun x _ hx => ?_) ⟨e.2.2.toNat, List.mem_range.2 h2, ?_⟩
      · simp only [Bool.not_eq_true', decide_eq_false_iff_not] at hx ⊢
        exact fun hh => hx (List.mem_append_left _ hh)
      · rw [← h4, decide_eq_true (List.mem_append_right _ List.mem_cons_self), decide_eq_false hr]; decide
    rw [List.length_append, List.length_singleton]
    omega
theorem RO.start (es : List E3) (n : Nat) (z : Int) : RO es n z [] [z] :=
  ⟨fun x hx => (by cases hx), fun x hx => .inl (List.mem_singleton.1 hx), by have := cntF_le n (fun i => !decide ((i : Int) ∈ ([] : List Int))); simpa using this⟩
end Go.Proofs.Ytfkplnmhlpabaaa
