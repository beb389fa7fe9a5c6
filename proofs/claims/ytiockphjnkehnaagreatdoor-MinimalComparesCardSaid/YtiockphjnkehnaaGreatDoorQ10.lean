/- What math/bits.TrailingZeros64 and the functions of states return: Of, Every, Members, Step. Conditions: the library's table reads as its text lays it; states are below 64. Plain facts on a search in depth: which states it finds, and at which lengths. No condition. Plain facts on the components of a graph. No condition. -/
import Derived.Test.YtiockphjnkehnaaGreatDoorQ04
import Derived.Test.YtiockphjnkehnaaGreatDoorQ09
import Derived.Shelf.Spec.TrailingZeros
import Derived.Test.YtiockphjnkehnaaGreatDoorQ08

namespace Go.Proofs.YtiockphjnkehnaaGreatDoor
open Go.RowKit
set_option linter.unusedSimpArgs false
set_option linter.unusedVariables false

abbrev TabD (W : World) : Prop := TabAt 0 Lib.deBruijn64tab W
theorem TabD.keep {W W' : World} (h : TabD W) (hb : Below W.heap.size W W') : TabD W' := fun j hj => cell_keep (h j hj) hb
set_option maxRecDepth 100000 in
set_option maxHeartbeats 1600000 in
theorem tz_core (x k idx : Nat) (w : World) (hx0 : ((x : Int) == 0) = false)
    (key : IntKind.u64.wrap (bits BinOp.and IntKind.u64 (x : Int) (IntKind.u64.wrap (-(x : Int))) * 285870213051353865) / 288230376151711744 = (idx : Int))
    (hi : idx < 64) (hk : k < 64) (hcell : w.cell? ⟨0, idx, none⟩ = some (.int .u8 k)) :
    Calls Tryz.prog 113 #[.int .u64 x] w fun e w' => e = .returned (.int .i64 k) ∧ w' = w := by
  go_enter Tryz.func113, Tryz.ntmps113
  go_wp2_with (simp only [key])
  go_ret
  exact ⟨rfl, rfl⟩
theorem tz_any (S : Nat) (h0 : S ≠ 0) (h : S < 18446744073709551616) (w : World) (hT : TabD w) :
    Calls Tryz.prog 113 #[.int .u64 (S : Int)] w fun e w' => e = .returned (.int .i64 ((Lib.ctz 64 S : Nat) : Int)) ∧ w' = w := by
  obtain ⟨hlow, hk⟩ := Lib.lowest_bit 64 S h0 h
  obtain ⟨hi, htab⟩ := Lib.deBruijn64_at _ hk
  have hcell := hT _ hi
  rw [htab] at hcell
  exact tz_core S _ _ w (by simp; omega) (tz64_key S _ h h0 hlow) hi hk hcell
theorem pow_lt64 {s : Nat} (h : s < 64) : 2 ^ s < 18446744073709551616 := by
  have h2 : 2 ^ s < 2 ^ 64 := Nat.pow_lt_pow_right (by decide) h
  exact h2
theorem pow_le64 {s : Nat} (h : s ≤ 64) : 2 ^ s ≤ 18446744073709551616 := by
  have h2 : 2 ^ s ≤ 2 ^ 64 := Nat.pow_le_pow_right (by decide) h
  exact h2
theorem shl_one (s : Nat) (h : s < 64) : IntKind.u64.wrap ((2 : Int) ^ s) = ((2 ^ s : Nat) : Int) := by
  have h2 := pow_lt64 h
  have e : ((2 : Int) ^ s) = ((2 ^ s : Nat) : Int) := by norm_cast
  rw [IntKind.wrap_u64, e]
  generalize 2 ^ s = y at *
  omega
def ofN (l : List Int) : Nat := l.foldl (fun S s => S ||| 2 ^ s.toNat) 0
theorem ofN_snoc (l : List Int) (s : Int) : ofN (l ++ [s]) = ofN l ||| 2 ^ s.toNat := by unfold ofN; rw [List.foldl_append]; rfl
theorem or_lt64 {a b : Nat} (ha : a < 18446744073709551616) (hb : b < 18446744073709551616) : a ||| b < 18446744073709551616 := Nat.or_lt_two_pow (n := 64) ha hb
theorem ofN_lt : ∀ (l : List Int) (i : Nat), (∀ s ∈ l, 0 ≤ s ∧ s < 64) → ofN (l.take i) < 18446744073709551616
  | l, 0, _ => by rw [List.take_zero]; show 0 < _; decide
  | l, i + 1, h => by
    cases hx : l[i]? with
    | none =>
      have hl := List.getElem?_eq_none_iff.1 hx
      have e : l.take (i + 1) = l.take i := by rw [List.take_of_length_le (by omega), List.take_of_length_le hl]
      rw [e]
      exact ofN_lt l i h
    | some x =>
      rw [take_snoc hx, ofN_snoc]
      have := h x (List.mem_of_getElem? hx)
      exact or_lt64 (ofN_lt l i h) (pow_lt64 (by omega))
theorem clr_op {S : Nat} (h0 : S ≠ 0) (h : S < 18446744073709551616) : bits .and .u64 (S : Int) (IntKind.u64.wrap ((S : Int) - 1)) = ((clr S : Nat) : Int) := by
  have e : IntKind.u64.wrap ((S : Int) - 1) = ((S - 1 : Nat) : Int) := by rw [IntKind.wrap_u64]; omega
  rw [e, bits_and_u64_nat S _ h (by omega)]
  rfl
set_option maxRecDepth 100000 in
set_option maxHeartbeats 1600000 in
theorem setOf_any (l : List Int) (v : Value) (w : World) (hrd : IntsRd w v l) (h : ∀ s ∈ l, 0 ≤ s ∧ s < 64) (hn : l.length ≤ 100000) :
    Calls Tryz.prog 51 #[v] w fun e w' => e = .returned (.int .u64 ((ofN l : Nat) : Int)) ∧ Below w.heap.size w w' := by
  have HL := Lib.hid h
  have HR := Lib.hid hrd
  obtain ⟨a, c, rfl⟩ := hrd.form
  clear h hrd
  go_enter Tryz.func51, Tryz.ntmps51
  go_wp2_with fail
  go_loopg [3, 8] l.length (fun q s3 s8 wx => ∃ i : Nat, i + q = l.length ∧ s8 = .int .i64 (i : Int) ∧ s3 = .int .u64 ((ofN (l.take i) : Nat) : Int) ∧ Below w.heap.size w wx)
  case atStart => exact ⟨0, by omega, rfl, rfl, Below.refl _ _⟩
  case round =>
    obtain ⟨i, hin, rfl, rfl, hb⟩ := hrel
    rcases gk with _ | q
    · obtain rfl : i = l.length := by omega
      have HE := Lib.hid (List.take_length (l := l))
      go_wp2_with fail
      go_ret
      exact ⟨by rw [HE.out]; rfl, hb⟩
    · obtain ⟨x, hx⟩ : ∃ x, l[i]? = some x := ⟨_, List.getElem?_eq_getElem (by omega)⟩
      obtain ⟨x0, x1⟩ := HL.out x (List.mem_of_getElem? hx)
      obtain ⟨b, off, cc, hv, k1⟩ := (HR.out.keep hb).at hx
      injection hv with e1 e2 e3
      subst e1
      have HT := Lib.hid (take_snoc hx)
      obtain ⟨s, rfl⟩ : ∃ m : Nat, x = (m : Int) := ⟨x.toNat, by omega⟩
      have hs : s < 64 := by omega
      have H1 := Lib.hid (shl_one s hs)
      have H2 := Lib.hid (bits_or_u64_nat (ofN (l.take i)) (2 ^ s) (ofN_lt l i HL.out) (pow_lt64 hs))
      have H3 := Lib.hid (ofN_snoc (l.take i) (s : Int))
      have j1 : (i : Int) < (l.length : Int) := by omega
      clear hx e2 e3 x1
      generalize ofN (l.take i) = S at *
      go_wp2_with fail
      go_roundg q
      case measure => omega
      case rel => exact ⟨i + 1, by omega, by go_num, by rw [H1.out, H2.out, HT.out, H3.out, Int.toNat_natCast], hb⟩
def fullN (n : Nat) : Nat := 2 ^ n - 1
theorem fullN_lt {n : Nat} (h : n ≤ 64) : fullN n < 18446744073709551616 := by
  have := pow_le64 h
  have h3 : 0 < 2 ^ n := Nat.two_pow_pos n
  unfold fullN; omega
theorem fullN_bit (n i : Nat) : (fullN n).testBit i = decide (i < n) := Nat.testBit_two_pow_sub_one n i
theorem every_op {n : Nat} (h : n ≤ 64) : IntKind.u64.wrap (IntKind.u64.wrap ((2 : Int) ^ n) - 1) = ((fullN n : Nat) : Int) := by
  have h2 := pow_le64 h
  have h3 : 0 < 2 ^ n := Nat.two_pow_pos n
  have e : ((2 : Int) ^ n) = ((2 ^ n : Nat) : Int) := by norm_cast
  rw [IntKind.wrap_u64, IntKind.wrap_u64, e]
  unfold fullN
  generalize 2 ^ n = y at *
  omega
set_option maxRecDepth 100000 in
theorem every_any (La : Int) (n : Nat) (v : Value) (w : World) (hn : n ≤ 64) : Calls Tryz.prog 44 #[grV La (n : Int) v] w fun e w' => e = .returned (.int .u64 ((fullN n : Nat) : Int)) ∧ Below w.heap.size w w' := by
  have HE := Lib.hid (every_op hn)
  go_enter Tryz.func44, Tryz.ntmps44
  go_wp2
  go_ret
  exact ⟨by rw [HE.out]; rfl, below1 w _⟩
set_option maxRecDepth 100000 in
set_option maxHeartbeats 3200000 in
theorem memb_any (S : Nat) (w : World) (hS : S < 18446744073709551616) (hT : TabD w) : Calls Tryz.prog 100 #[.int .u64 (S : Int)] w (NewInts w (memN S)) := by
  obtain ⟨i0, hi, hz0, hz1, hz2⟩ := info_parts Tryz.infoI64
  have HT := Lib.hid hT
  have HF := Lib.hid (fromN_start hS)
  clear hT hS
  go_enter Tryz.func100, Tryz.ntmps100
  go_wp2_with fail
  go_loopg [0, 3] 64 (fun q s0 s3 wx => ∃ c cur : Nat, c + q = 64 ∧ s0 = .int .u64 (cur : Int) ∧ Hid (fromN S c cur) ∧ IntsAt wx w.heap.size s3 (mems c S.testBit) ∧ Below w.heap.size w wx)
  case atStart => exact ⟨0, S, by omega, rfl, HF, ints_nil _ _, Below.refl _ _⟩
  case round =>
    clear HF
    obtain ⟨c, cur, hcq, rfl, HF, hown, hb⟩ := hrel
    obtain ⟨a3, c3, rfl⟩ := hown.slice
    by_cases h0 : cur = 0
    · subst h0
      have HI := Lib.hid hown
      have HE := Lib.hid (fromN_end HF.out (by omega))
      clear hown HF
      obtain ⟨m, hm⟩ : ∃ m, (mems c S.testBit).length = m := ⟨_, rfl⟩
      rw [hm] at HI ⊢
      clear hm
      go_wp2_with fail
      go_ret
      exact ⟨_, rfl, by unfold memN; rw [HE.out]; exact HI.out, hb⟩
    · have j0 : ((cur : Int) != 0) = true := by rw [bne_iff_ne]; omega
      obtain ⟨f1, f2, f3, f4⟩ := fromN_ctz HF.out h0
      have HTZ := Lib.hid (tz_any cur h0 HF.out.1)
      have HS := Lib.hid (fromN_mems HF.out h0)
      have HC := Lib.hid (clr_op h0 HF.out.1)
      have HF2 := Lib.hid (fromN_step HF.out h0)
      generalize Lib.ctz 64 cur = k at *
      have hml := mems_len c S.testBit
      have hlt := hown.lt
      have hown0 := hown
      unfold IntsAt at hown0
      obtain ⟨m, hm⟩ : ∃ m, (mems c S.testBit).length = m := ⟨_, rfl⟩
      rw [hm] at hown0 hml hlt ⊢
      have HM := Lib.hid hm
      clear hown hm HF f3 f4
      go_wp2_with (first
        | (go_at_call 113; (with_reducible refine (HTZ.out wr (HT.out.keep (by first | exact hb.mono (by exact Nat.le_refl _) | exact hb))).mono ?_); rintro e W1 ⟨rfl, hW1⟩; (rw [hW1]); (clear hW1))
        | (at_builtin; refine wpList_append_own_at _ rfl _ _ 30 rfl w.heap.size 3 i0 (.int .i64 0) 1 8 Tryz.underlying30 hi hz0 hz1 hz2 rfl (by decide) _ _ _ rfl (hown0.alloc _) ⟨wr.heap.size, 0, none⟩ 1 1 [.int .i64 (k : Int)] rfl rfl ?c1 ?c2 ?c3 ?c4 ?c5 ?_))
      case c1 => exact World.news_of_block (cs := #[.int .i64 (k : Int)]) (t := 3) (fr := (0, 0)) (heap_alloc_new wr _)
      case c2 => intro u hu; simp at hu; subst hu; rfl
      case c3 => unfold maxLen; omega
      case c4 => omega
      case c5 => rw [World.size_alloc]; have := hb.size; omega
      intro v' W2 hown2 hgrow _ hv'
      have hb2 : Below w.heap.size w W2 := (hb.alloc hb.size _).grown hgrow (by rw [World.size_alloc]; have := hb.size; omega) (fun k hk => (hlt k hk).1)
      rw [← intz_snoc, ← HS.out] at hown2
      have HI2 := Lib.hid (show IntsAt W2 w.heap.size v' (mems (k + 1) S.testBit) by unfold IntsAt; rw [HS.out, List.length_append, HM.out]; rw [HS.out] at hown2; exact hown2)
      obtain ⟨a', c', rfl⟩ := own_slice hown2
      clear hown0 hown2 hgrow hlt hv' hb
      go_wp2_with fail
      go_roundg (64 - (k + 1))
      case measure => omega
      case rel => exact ⟨k + 1, clr cur, by omega, by rw [HC.out], HF2, HI2.out, hb2⟩
end Go.Proofs.YtiockphjnkehnaaGreatDoor

namespace Go.Proofs.YtiockphjnkehnaaGreatDoor
set_option linter.unusedVariables false

def tgE (es : List E3) (s : Int) : List Int := (es.filter fun e => decide (e.1 = s)).map fun e => e.2.2
theorem tgE_snoc (es : List E3) (e : E3) (s : Int) : tgE (es ++ [e]) s = if e.1 = s then tgE es s ++ [e.2.2] else tgE es s := by
  unfold tgE
  rw [List.filter_append, List.map_append]
  by_cases h : e.1 = s
  · rw [if_pos h]; simp [h]
  · rw [if_neg h]; simp [h]
theorem tgE_mem {es : List E3} {s x : Int} : x ∈ tgE es s ↔ ∃ e ∈ es, e.1 = s ∧ e.2.2 = x := by
  unfold tgE
  simp only [List.mem_map, List.mem_filter, decide_eq_true_eq]
  exact ⟨fun ⟨e, ⟨h1, h2⟩, h3⟩ => ⟨e, h1, h2, h3⟩, fun ⟨e, h1, h2, h3⟩ => ⟨e, ⟨h1, h2⟩, h3⟩⟩
theorem tgE_len (es : List E3) (s : Int) : (tgE es s).length ≤ es.length := by
  unfold tgE; rw [List.length_map]; exact List.length_filter_le _ _
inductive Pth (es : List E3) (s : Int) : Nat → Int → Prop
  | nil : Pth es s 0 s
  | step {k : Nat} {e : E3} (h : Pth es s k e.1) (he : e ∈ es) : Pth es s (k + 1) e.2.2
theorem Pth.front {es : List E3} {e : E3} (he : e ∈ es) {k : Nat} {x : Int} (h : Pth es e.2.2 k x) : Pth es e.1 (k + 1) x := by
  induction h with
  | nil => exact .step .nil he
  | step h he2 ih => exact .step ih he2
theorem Pth.trans {es : List E3} {s t : Int} {j : Nat} (h : Pth es s j t) {k : Nat} {x : Int} (h2 : Pth es t k x) : Pth es s (j + k) x := by
  induction h2 with
  | nil => exact h
  | step h3 he ih => exact .step ih he
def Rc (es : List E3) (s x : Int) : Prop := ∃ k, Pth es s k x
theorem Rc.refl (es : List E3) (s : Int) : Rc es s s := ⟨0, .nil⟩
theorem Rc.trans {es : List E3} {s t x : Int} (h : Rc es s t) (h2 : Rc es t x) : Rc es s x := by
  obtain ⟨j, h⟩ := h; obtain ⟨k, h2⟩ := h2; exact ⟨j + k, h.trans h2⟩
theorem Rc.edge {es : List E3} {e : E3} (he : e ∈ es) : Rc es e.1 e.2.2 := ⟨1, .step .nil he⟩
theorem Rc.closed {es : List E3} {s x : Int} (h : Rc es s x) {P : Int → Prop} (hs : P s) (hP : ∀ e ∈ es, P e.1 → P e.2.2) : P x := by
  obtain ⟨k, h⟩ := h
  induction h with
  | nil => exact hs
  | step h he ih => exact hP _ he ih
def setN (f : Nat → Int) (s : Nat) (l : Int) : Nat → Int := fun j => if j = s then l else f j
def dfsA (nx : Nat → List Int) : Nat → (Nat → Int) → Nat → Int → Nat → Int
  | 0, f, _, _ => f
  | k + 1, f, s, l => if f s = -1 then (nx s).foldl (fun g t => dfsA nx k g t.toNat (l + 1)) (setN f s l) else f
def unf (n : Nat) (f : Nat → Int) : Nat := cntF n (fun j => decide (f j = -1))
theorem unf_le (n : Nat) (f : Nat → Int) : unf n f ≤ n := cntF_le _ _
theorem dfsA_found {nx : Nat → List Int} {k : Nat} {f : Nat → Int} {s : Nat} {l : Int} (h : f s ≠ -1) : dfsA nx (k + 1) f s l = f := by
  rw [dfsA, if_neg h]
theorem dfsA_new {nx : Nat → List Int} {k : Nat} {f : Nat → Int} {s : Nat} {l : Int} (h : f s = -1) : dfsA nx (k + 1) f s l = (nx s).foldl (fun g t => dfsA nx k g t.toNat (l + 1)) (setN f s l) := by
  rw [dfsA, if_pos h]
theorem dfsA_keep {nx : Nat → List Int} : ∀ {k : Nat} {f : Nat → Int} {s : Nat} {l : Int} {t : Nat}, f t ≠ -1 → dfsA nx k f s l t = f t
  | 0, f, s, l, t, h => rfl
  | k + 1, f, s, l, t, h => by
    by_cases hs : f s = -1
    · rw [dfsA_new hs]
      have hts : t ≠ s := fun e => h (e ▸ hs)
      have h0 : setN f s l t = f t := if_neg hts
      have : ∀ (ts : List Int) (g : Nat → Int), g t = f t → ts.foldl (fun g u => dfsA nx k g u.toNat (l + 1)) g t = f t := by
        intro ts
        induction ts with
        | nil => intro g hg; exact hg
        | cons u ts ih =>
          intro g hg
          exact ih _ ((dfsA_keep (by rw [hg]; exact h)).trans hg)
      exact this _ _ h0
    · rw [dfsA_found hs]
theorem unf_mono {n : Nat} {f g : Nat → Int} (h : ∀ t, t < n → f t ≠ -1 → g t ≠ -1) : unf n g ≤ unf n f := by
  unfold unf cntF
  refine filter_sub _ (fun x hx hg => ?_)
  rw [decide_eq_true_eq] at hg ⊢
  rcases Classical.em (f x = -1) with h1 | h1
  · exact h1
  · exact absurd hg (h x (List.mem_range.1 hx) h1)
theorem unf_dfs (nx : Nat → List Int) (n k : Nat) (f : Nat → Int) (s : Nat) (l : Int) : unf n (dfsA nx k f s l) ≤ unf n f :=
  unf_mono fun t _ h => by rw [dfsA_keep h]; exact h
theorem unf_set {n : Nat} {f : Nat → Int} {s : Nat} {l : Int} (hs : s < n) (h : f s = -1) (hl : l ≠ -1) : unf n (setN f s l) < unf n f := by
  unfold unf cntF
  refine filter_less _ (fun x hx hg => ?_) ⟨s, List.mem_range.2 hs, ?_⟩
  · rw [decide_eq_true_eq] at hg ⊢
    unfold setN at hg
    split at hg
    · exact absurd hg hl
    · exact hg
  · have : setN f s l s = l := if_pos rfl
    rw [this, h]; simp [hl]
theorem dfsA_sound {es : List E3} : ∀ {k : Nat} {f : Nat → Int} {s : Nat} {l : Int} {t : Nat}, (∀ e ∈ es, 0 ≤ e.2.2) → f t = -1 → dfsA (fun i => tgE es (i : Int)) k f s l t ≠ -1 → ∃ d, Pth es (s : Int) d (t : Int) ∧ dfsA (fun i => tgE es (i : Int)) k f s l t = l + d
  | 0, f, s, l, t, _, h, h2 => absurd h h2
  | k + 1, f, s, l, t, hp, h, h2 => by
    by_cases hs : f s = -1
    · rw [dfsA_new hs] at h2 ⊢
      have : ∀ (ts : List Int) (g : Nat → Int), (∀ u ∈ ts, ∃ e ∈ es, e.1 = (s : Int) ∧ e.2.2 = u) → (g t ≠ -1 → ∃ d, Pth es (s : Int) d (t : Int) ∧ g t = l + d) →
          ts.foldl (fun g u => dfsA (fun i => tgE es (i : Int)) k g u.toNat (l + 1)) g t ≠ -1 → ∃ d, Pth es (s : Int) d (t : Int) ∧ ts.foldl (fun g u => dfsA (fun i => tgE es (i : Int)) k g u.toNat (l + 1)) g t = l + d := by
        intro ts
        induction ts with
        | nil => intro g _ hg h3; exact hg h3
        | cons u ts ih =>
          intro g hu hg h3
          refine ih _ (fun x hx => hu x (List.mem_cons_of_mem _ hx)) (fun h4 => ?_) h3
          dsimp only at h4 ⊢
          by_cases h5 : g t = -1
          · obtain ⟨d, hd, he⟩ := dfsA_sound (k := k) hp h5 h4
            obtain ⟨e, hee, e1, e2⟩ := hu u List.mem_cons_self
            have hu0 : ((u.toNat : Nat) : Int) = u := by have := hp e hee; omega
            rw [hu0, ← e2] at hd
            refine ⟨d + 1, by rw [← e1]; exact hd.front hee, ?_⟩
            rw [he]; omega
          · rw [dfsA_keep h5]; exact hg h5
      refine this _ _ (fun u hu => tgE_mem.1 hu) (fun h3 => ?_) h2
      unfold setN at h3 ⊢
      by_cases hts : t = s
      · subst hts; rw [if_pos rfl]; exact ⟨0, .nil, by simp⟩
      · rw [if_neg hts] at h3; exact absurd h h3
    · rw [dfsA_found hs] at h2; exact absurd h h2
theorem dfsA_closed {nx : Nat → List Int} {n : Nat} (hn : ∀ s, s < n → ∀ u ∈ nx s, u.toNat < n) : ∀ {k : Nat} {f : Nat → Int} {s : Nat} {l : Int}, s < n → 0 ≤ l → unf n f ≤ k →
    dfsA nx (k + 1) f s l s ≠ -1 ∧ ∀ t, t < n → f t = -1 → dfsA nx (k + 1) f s l t ≠ -1 → ∀ u ∈ nx t, dfsA nx (k + 1) f s l u.toNat ≠ -1 := by
  intro k
  induction k with
  | zero =>
    intro f s l hs hl hk
    have h : f s ≠ -1 := fun h => by have := unf_set hs h (show l ≠ -1 by omega); omega
    rw [dfsA_found h]
    exact ⟨h, fun t _ h1 h2 => absurd h1 h2⟩
  | succ k ih =>
    intro f s l hs hl hk
    by_cases h : f s = -1
    · rw [dfsA_new h]
      have h0 : unf n (setN f s l) ≤ k := by have := unf_set hs h (show l ≠ -1 by omega); omega
      have hss : setN f s l s ≠ -1 := by unfold setN; rw [if_pos rfl]; omega
      have key : ∀ (ts : List Int) (g : Nat → Int) (pre : List Int), (∀ u ∈ ts, u.toNat < n) → (∀ t, setN f s l t ≠ -1 → g t ≠ -1) → unf n g ≤ k → (∀ u ∈ pre, g u.toNat ≠ -1) →
          (∀ t, t < n → setN f s l t = -1 → g t ≠ -1 → ∀ u ∈ nx t, g u.toNat ≠ -1) →
          (∀ t, setN f s l t ≠ -1 → ts.foldl (fun g u => dfsA nx (k + 1) g u.toNat (l + 1)) g t ≠ -1) ∧ (∀ u ∈ pre ++ ts, ts.foldl (fun g u => dfsA nx (k + 1) g u.toNat (l + 1)) g u.toNat ≠ -1) ∧
          (∀ t, t < n → setN f s l t = -1 → ts.foldl (fun g u => dfsA nx (k + 1) g u.toNat (l + 1)) g t ≠ -1 → ∀ u ∈ nx t, ts.foldl (fun g u => dfsA nx (k + 1) g u.toNat (l + 1)) g u.toNat ≠ -1) := by
        intro ts
        induction ts with
        | nil => intro g pre _ a b c d; exact ⟨a, by simpa using c, d⟩
        | cons v ts ih2 =>
          intro g pre hts a b c d
          have hv := hts v List.mem_cons_self
          obtain ⟨i1, i2⟩ := ih (f := g) (s := v.toNat) (l := l + 1) hv (by omega) b
          obtain ⟨q1, q2, q3⟩ := ih2 (dfsA nx (k + 1) g v.toNat (l + 1)) (pre ++ [v]) (fun u hu => hts u (List.mem_cons_of_mem _ hu)) (fun t ht => by rw [dfsA_keep (a t ht)]; exact a t ht)
            (Nat.le_trans (unf_dfs nx n _ g _ _) b) (fun u hu => by
              rcases List.mem_append.1 hu with hu | hu
              · rw [dfsA_keep (c u hu)]; exact c u hu
              · rw [List.mem_singleton.1 hu]; exact i1)
            (fun t ht h1 h2 u hu => by
              by_cases h3 : g t = -1
              · exact i2 t ht h3 h2 u hu
              · have := d t ht h1 h3 u hu
                rw [dfsA_keep this]; exact this)
          exact ⟨q1, fun u hu => q2 u (by simpa using hu), q3⟩
      obtain ⟨q1, q2, q3⟩ := key (nx s) (setN f s l) [] (hn s hs) (fun _ h => h) h0 (fun u hu => by cases hu) (fun t _ h1 h2 => absurd h1 h2)
      refine ⟨q1 s hss, fun t ht h1 h2 u hu => ?_⟩
      by_cases hts : t = s
      · subst hts; exact q2 u (by simpa using hu)
      · exact q3 t ht (by unfold setN; rw [if_neg hts]; exact h1) h2 u hu
    · rw [dfsA_found h]
      exact ⟨h, fun t _ h1 h2 => absurd h1 h2⟩
def lenF (es : List E3) (n s : Nat) : Nat → Int := dfsA (fun i => tgE es (i : Int)) (n + 1) (fun _ => -1) s 0
theorem lenF_path {L : Int} {n : Nat} {es : List E3} (h : ∀ e ∈ es, okE L (n : Int) e = true) {s t : Nat} (h2 : lenF es n s t ≠ -1) : ∃ d, Pth es (s : Int) d (t : Int) ∧ lenF es n s t = d := by
  obtain ⟨d, hd, he⟩ := dfsA_sound (f := fun _ => -1) (k := n + 1) (s := s) (t := t) (l := 0) (fun e he => by have := okE_iff.1 (h e he); omega) rfl h2
  exact ⟨d, hd, by unfold lenF; rw [he]; omega⟩
theorem lenF_found {L : Int} {n : Nat} {es : List E3} (h : ∀ e ∈ es, okE L (n : Int) e = true) {s t : Nat} (hs : s < n) (ht : t < n) : lenF es n s t ≠ -1 ↔ Rc es (s : Int) (t : Int) := by
  refine ⟨fun h2 => by obtain ⟨d, hd, -⟩ := lenF_path h h2; exact ⟨d, hd⟩, fun h2 => ?_⟩
  obtain ⟨c1, c2⟩ := dfsA_closed (nx := fun i => tgE es (i : Int)) (n := n) (fun s hs u hu => by
    obtain ⟨e, he, -, rfl⟩ := tgE_mem.1 hu
    have := okE_iff.1 (h e he); omega) (k := n) (f := fun _ => -1) (s := s) (l := 0) hs (by omega) (unf_le _ _)
  have := h2.closed (P := fun x => lenF es n s x.toNat ≠ -1) (by show lenF es n s ((s : Int).toNat) ≠ -1; rw [Int.toNat_natCast]; exact c1) (fun e he hP => by
    obtain ⟨a1, a2, a3, a4⟩ := okE_st (h e he)
    exact c2 e.1.toNat a1 rfl hP e.2.2 (tgE_mem.2 ⟨e, he, a3, rfl⟩))
  simpa using this
end Go.Proofs.YtiockphjnkehnaaGreatDoor

namespace Go.Proofs.YtiockphjnkehnaaGreatDoor
set_option linter.unusedVariables false

def rb (es : List E3) (n s t : Nat) : Bool := decide (lenF es n s t ≠ -1)
def compB (es : List E3) (n s t : Nat) : Bool := rb es n s t && rb es n t s
def compF (es : List E3) (n s : Nat) : List Int := mems n (compB es n s)
def repB (es : List E3) (n s : Nat) : Bool := !(List.range s).any fun r => compB es n r s
def placedB (es : List E3) (n k t : Nat) : Bool := (List.range k).any fun r => compB es n r t
def repsK (es : List E3) (n k : Nat) : List Nat := (List.range k).filter (repB es n)
def comps (es : List E3) (n : Nat) : List (List Int) := (repsK es n n).map (compF es n)
theorem placed_rep (es : List E3) (n s : Nat) : placedB es n s s = !repB es n s := by unfold placedB repB; rw [Bool.not_not]
theorem placed_zero (es : List E3) (n t : Nat) : placedB es n 0 t = false := rfl
theorem placed_step (es : List E3) (n k t : Nat) : placedB es n (k + 1) t = (placedB es n k t || compB es n k t) := by
  unfold placedB
  rw [List.range_succ, List.any_append]; simp
theorem repsK_step (es : List E3) (n k : Nat) : repsK es n (k + 1) = if repB es n k = true then repsK es n k ++ [k] else repsK es n k := by
  unfold repsK
  rw [List.range_succ, List.filter_append]
  by_cases h : repB es n k = true
  · rw [if_pos h]; simp [h]
  · rw [if_neg h]; simp [h]
section
variable {L : Int} {n : Nat} {es : List E3}
theorem rb_iff (h : ∀ e ∈ es, okE L (n : Int) e = true) {s t : Nat} (hs : s < n) (ht : t < n) : rb es n s t = true ↔ Rc es (s : Int) (t : Int) := by
  unfold rb; rw [decide_eq_true_iff]; exact lenF_found h hs ht
theorem compB_iff (h : ∀ e ∈ es, okE L (n : Int) e = true) {s t : Nat} (hs : s < n) (ht : t < n) : compB es n s t = true ↔ Rc es (s : Int) (t : Int) ∧ Rc es (t : Int) (s : Int) := by
  unfold compB; rw [Bool.and_eq_true, rb_iff h hs ht, rb_iff h ht hs]
theorem compB_refl (h : ∀ e ∈ es, okE L (n : Int) e = true) {s : Nat} (hs : s < n) : compB es n s s = true := (compB_iff h hs hs).2 ⟨Rc.refl _ _, Rc.refl _ _⟩
theorem compB_symm (es : List E3) (n s t : Nat) : compB es n s t = compB es n t s := by unfold compB; rw [Bool.and_comm]
theorem compB_trans (h : ∀ e ∈ es, okE L (n : Int) e = true) {r s t : Nat} (hr : r < n) (hs : s < n) (ht : t < n) (h1 : compB es n r s = true) (h2 : compB es n s t = true) : compB es n r t = true := by
  rw [compB_iff h hr hs] at h1
  rw [compB_iff h hs ht] at h2
  exact (compB_iff h hr ht).2 ⟨h1.1.trans h2.1, h2.2.trans h1.2⟩
theorem compF_mem (h : ∀ e ∈ es, okE L (n : Int) e = true) {s : Nat} (hs : s < n) {x : Int} : x ∈ compF es n s ↔ ∃ t : Nat, x = (t : Int) ∧ t < n ∧ Rc es (s : Int) (t : Int) ∧ Rc es (t : Int) (s : Int) := by
  unfold compF
  rw [mems_iff]
  exact ⟨fun ⟨i, h1, h2, h3⟩ => ⟨i, h1, h2, (compB_iff h hs h2).1 h3⟩, fun ⟨i, h1, h2, h3⟩ => ⟨i, h1, h2, (compB_iff h hs h2).2 h3⟩⟩
theorem placed_skip (h : ∀ e ∈ es, okE L (n : Int) e = true) {k t : Nat} (hk : k < n) (ht : t < n) (hr : repB es n k = false) : placedB es n (k + 1) t = placedB es n k t := by
  rw [placed_step]
  cases h1 : compB es n k t with
  | false => simp
  | true =>
    rw [Bool.or_true]
    unfold repB at hr
    have hr' : (List.range k).any (fun r => compB es n r k) = true := by simpa using hr
    obtain ⟨r, hr1, hr2⟩ := List.any_eq_true.1 hr'
    have hrk := List.mem_range.1 hr1
    symm
    exact List.any_eq_true.2 ⟨r, hr1, compB_trans h (by omega) hk ht hr2 h1⟩
theorem reps_lt {s k : Nat} (h : s ∈ repsK es n k) : s < k ∧ repB es n s = true := by
  unfold repsK at h
  obtain ⟨h1, h2⟩ := List.mem_filter.1 h
  exact ⟨List.mem_range.1 h1, h2⟩
theorem reps_len (es : List E3) (n k : Nat) : (repsK es n k).length ≤ k := by
  unfold repsK; exact Nat.le_trans (List.length_filter_le _ _) (by simp)
theorem rep_of (h : ∀ e ∈ es, okE L (n : Int) e = true) {t : Nat} (ht : t < n) : ∃ s, s ∈ repsK es n n ∧ compB es n s t = true := by
  have : ∀ k s, s ≤ k → s < n → ∃ r, r ∈ repsK es n n ∧ compB es n r s = true := by
    intro k
    induction k with
    | zero =>
      intro s hs hsn
      obtain rfl : s = 0 := by omega
      exact ⟨0, List.mem_filter.2 ⟨List.mem_range.2 hsn, rfl⟩, compB_refl h hsn⟩
    | succ k ih =>
      intro s hs hsn
      cases hr : repB es n s with
      | true => exact ⟨s, List.mem_filter.2 ⟨List.mem_range.2 hsn, hr⟩, compB_refl h hsn⟩
      | false =>
        unfold repB at hr
        have hr' : (List.range s).any (fun r => compB es n r s) = true := by simpa using hr
        obtain ⟨r, hr1, hr2⟩ := List.any_eq_true.1 hr'
        have hrs := List.mem_range.1 hr1
        obtain ⟨q, hq1, hq2⟩ := ih r (by omega) (by omega)
        exact ⟨q, hq1, compB_trans h (reps_lt hq1).1 (by omega) hsn hq2 hr2⟩
  exact this t t (Nat.le_refl _) ht
theorem rep_one {s t : Nat} (hs : s ∈ repsK es n n) (ht : t ∈ repsK es n n) (hst : compB es n s t = true) : s = t := by
  have h1 := (reps_lt hs).2
  have h2 := (reps_lt ht).2
  unfold repB at h1 h2
  rcases Nat.lt_trichotomy s t with h | h | h
  · rw [List.any_eq_true.2 ⟨s, List.mem_range.2 h, hst⟩] at h2; cases h2
  · exact h
  · rw [List.any_eq_true.2 ⟨t, List.mem_range.2 h, (compB_symm es n t s).trans hst⟩] at h1; cases h1
theorem reps_asc (es : List E3) (n k : Nat) : (repsK es n k).Pairwise (· < ·) := List.Pairwise.filter _ (List.pairwise_lt_range)
theorem comps_len (es : List E3) (n : Nat) : (comps es n).length ≤ n := by unfold comps; rw [List.length_map]; exact reps_len _ _ _
theorem comps_mem {c : List Int} (h : c ∈ comps es n) : ∃ s, s ∈ repsK es n n ∧ c = compF es n s := by
  obtain ⟨s, h1, h2⟩ := List.mem_map.1 h; exact ⟨s, h1, h2.symm⟩
theorem compF_asc (es : List E3) (n s : Nat) : (compF es n s).Pairwise (· < ·) := mems_asc _ _
theorem compF_self (h : ∀ e ∈ es, okE L (n : Int) e = true) {s : Nat} (hs : s < n) : (s : Int) ∈ compF es n s := (compF_mem h hs).2 ⟨s, rfl, hs, Rc.refl _ _, Rc.refl _ _⟩
theorem compF_len (es : List E3) (n s : Nat) : (compF es n s).length ≤ n := mems_len _ _
def hasEd (es : List E3) (c : List Int) (within : Bool) : Bool := es.any fun e => decide (e.1 ∈ c) && (decide (e.2.2 ∈ c) == within)
def cycs (es : List E3) (n : Nat) : List (List Int) := (comps es n).filter fun c => hasEd es c true
def snks (es : List E3) (n : Nat) : List (List Int) := (comps es n).filter fun c => !hasEd es c false
def irrB (es : List E3) (n : Nat) : Bool := decide ((cycs es n).length = 1) && decide (((cycs es n).headD []).length = n)
theorem mems_full {n : Nat} {f : Nat → Bool} (h : (mems n f).length = n) : ∀ i, i < n → f i = true := by
  unfold mems at h
  rw [List.length_map] at h
  intro i hi
  have h1 : (List.range n).filter f = List.range n := List.filter_eq_self.2 (by
    have h2 : ((List.range n).filter f).length = (List.range n).length := by rw [h]; simp
    exact fun a ha => List.length_filter_eq_length_iff.1 h2 a ha)
  exact List.filter_eq_self.1 h1 i (List.mem_range.2 hi)
theorem irr_iff (h : ∀ e ∈ es, okE L (n : Int) e = true) : irrB es n = true ↔ es ≠ [] ∧ ∀ s t, s < n → t < n → Rc es (s : Int) (t : Int) := by
  unfold irrB
  rw [Bool.and_eq_true, decide_eq_true_iff, decide_eq_true_iff]
  constructor
  · rintro ⟨h1, h2⟩
    obtain ⟨c, hc⟩ := List.length_eq_one_iff.1 h1
    rw [hc] at h2
    have hcm : c ∈ cycs es n := by rw [hc]; exact List.mem_singleton_self _
    obtain ⟨hc1, hc2⟩ := List.mem_filter.1 hcm
    obtain ⟨r, hr, rfl⟩ := comps_mem hc1
    have hrn := (reps_lt hr).1
    have hf := mems_full (show (mems n (compB es n r)).length = n from h2)
    refine ⟨fun he => (by subst he; cases hc2), fun s t hs ht => ?_⟩
    have a := (compB_iff h hrn hs).1 (hf s hs)
    have b := (compB_iff h hrn ht).1 (hf t ht)
    exact a.2.trans b.1
  · rintro ⟨h1, h2⟩
    obtain ⟨e, he⟩ : ∃ e, e ∈ es := by
      cases es with
      | nil => exact absurd rfl h1
      | cons e es => exact ⟨e, List.mem_cons_self⟩
    obtain ⟨a1, a2, a3, a4⟩ := okE_st (h e he)
    have hn : 0 < n := by omega
    have hall : ∀ s t, s < n → t < n → compB es n s t = true := fun s t hs ht => (compB_iff h hs ht).2 ⟨h2 s t hs ht, h2 t s ht hs⟩
    have hreps : repsK es n n = [0] := by
      obtain ⟨r, hr, hr2⟩ := rep_of h (show 0 < n from hn)
      have hr0 : r = 0 := by
        refine Classical.byContradiction fun hne => ?_
        have h3 := (reps_lt hr).2
        unfold repB at h3
        rw [List.any_eq_true.2 ⟨0, List.mem_range.2 (by omega), hall 0 r hn (reps_lt hr).1⟩] at h3
        cases h3
      subst hr0
      have hone : ∀ x ∈ repsK es n n, x = 0 := fun x hx => (rep_one hr hx (hall 0 x hn (reps_lt hx).1)).symm
      have hp := reps_asc es n n
      match hl : repsK es n n with
      | [] => rw [hl] at hr; cases hr
      | [x] => rw [hone x (by rw [hl]; exact List.mem_singleton_self _)]
      | x :: y :: zs =>
        rw [hl] at hp
        have hx := hone x (by rw [hl]; exact List.mem_cons_self)
        have hy := hone y (by rw [hl]; exact List.mem_cons_of_mem _ List.mem_cons_self)
        have := (List.pairwise_cons.1 hp).1 y List.mem_cons_self
        omega
    have hcomp : compF es n 0 = allI n := mems_all (fun i hi => hall 0 i hn hi)
    have hc : comps es n = [allI n] := by unfold comps; rw [hreps]; simp [hcomp]
    have hed : hasEd es (allI n) true = true := List.any_eq_true.2 ⟨e, he, by
      rw [Bool.and_eq_true, decide_eq_true_iff]
      exact ⟨allI_mem.2 ⟨by omega, by omega⟩, by simp; exact allI_mem.2 ⟨by omega, by omega⟩⟩⟩
    have hcy : cycs es n = [allI n] := by unfold cycs; rw [hc]; simp [hed]
    rw [hcy]
    exact ⟨rfl, by simp [allI_len]⟩
end
end Go.Proofs.YtiockphjnkehnaaGreatDoor
