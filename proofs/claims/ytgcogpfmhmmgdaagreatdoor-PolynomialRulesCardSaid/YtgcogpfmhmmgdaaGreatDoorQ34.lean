/- What polynomial.isNegative and power return. Condition: at most 10^6 digits to the base 2^32. What polynomial.primitive returns. Condition: at most 10^5 coefficients, of at most 10^6 digits to the base 2^32. What polynomial.power, a power of a number, and polynomial.sign return. Condition: at most 10^6 rounds, powers of at most 10^7 digits to the base 2^32. -/
import Derived.Test.YtgcogpfmhmmgdaaGreatDoorQ32
import Derived.Test.YtgcogpfmhmmgdaaGreatDoorQ19
import Derived.Test.YtgcogpfmhmmgdaaGreatDoorQ18
import Derived.Test.YtgcogpfmhmmgdaaGreatDoorQ14

namespace Go.Proofs.YtgcogpfmhmmgdaaGreatDoor
open Go.RowKit
set_option linter.unusedSimpArgs false
set_option linter.unusedVariables false

theorem cmp_neg {z : Int} : decide (cmpZ z 0 < 0) = decide (z < 0) := by
  refine decide_eq_decide.2 ?_
  unfold cmpZ
  constructor
  · intro h
    split at h
    · assumption
    · split at h <;> omega
  · intro h
    rw [if_pos h]
    omega
set_option maxRecDepth 100000 in
theorem isneg_any (v : Value) (z : Int) (k : Nat) (w : World) (h : IsInt v z k) :
    Calls Tryz.prog 47 #[v] w fun e w' => e = .returned (.bool (decide (z < 0))) ∧ Below w.heap.size w w' := by
  have H := Lib.hid h
  obtain ⟨g, s, rfl, -⟩ := h
  have B0 := below1 w (.cells #[.bool g, .string s] 27)
  obtain ⟨c, Hc⟩ : ∃ c : Int, Hid (cmpZ z 0 = c) := ⟨_, Lib.hid rfl⟩
  have HD := Lib.hid (cmp_neg (z := z))
  go_enter Tryz.func47, Tryz.ntmps47
  go_wp2_with fail
  refine (icmp_eq H.out (zero_at (k := 1) (by omega)) Hc.out).mono ?_
  rintro e W1 ⟨rfl, b1⟩
  go_wp2
  go_ret
  exact ⟨by rw [← HD.out, Hc.out]; rfl, below_more B0 (Nat.le_refl _) b1⟩
end Go.Proofs.YtgcogpfmhmmgdaaGreatDoor

namespace Go.Proofs.YtgcogpfmhmmgdaaGreatDoor
open Go.RowKit Go.Shelf
attribute [local go_sem] Oper.semAt_some
set_option linter.unusedSimpArgs false
set_option linter.unusedVariables false

/-- The greatest common divisor of some coefficients. -/
def gcdT (L : List Int) (pre : List (Tm L)) : Nat := pre.foldl (fun a x => Nat.gcd a (co L x.1).natAbs) 0
theorem gcdT_snoc (L : List Int) (pre : List (Tm L)) (x : Tm L) : gcdT L (pre ++ [x]) = Nat.gcd (gcdT L pre) (co L x.1).natAbs := by
  unfold gcdT
  rw [List.foldl_append]; rfl
theorem gcdT_lt (L : List Int) {k : Nat} (h : PB L k) (pre : List (Tm L)) : gcdT L pre < 4294967296 ^ k := by
  suffices h9 : ∀ (pre : List (Tm L)) (a : Nat), a < 4294967296 ^ k → pre.foldl (fun a x => Nat.gcd a (co L x.1).natAbs) a < 4294967296 ^ k from h9 pre 0 (Nat.pow_pos (by omega))
  intro pre
  induction pre with
  | nil => intro a ha; exact ha
  | cons x pre ih =>
    intro a ha
    refine ih _ ?_
    show Nat.gcd a (co L x.1).natAbs < _
    by_cases h0 : a = 0
    · rw [h0, Nat.gcd_zero_left]; exact h x.1
    · exact Nat.lt_of_le_of_lt (Nat.gcd_le_left _ (Nat.pos_of_ne_zero h0)) ha
theorem gcdT_pos (L : List Int) (pre : List (Tm L)) (h : pre ≠ []) : 0 < gcdT L pre := by
  suffices h9 : ∀ (pre : List (Tm L)) (a : Nat), (0 < a ∨ pre ≠ []) → 0 < pre.foldl (fun a x => Nat.gcd a (co L x.1).natAbs) a from h9 pre 0 (.inr h)
  intro pre
  induction pre with
  | nil => intro a ha; rcases ha with ha | ha; exact ha; exact absurd rfl ha
  | cons x pre ih =>
    intro a ha
    refine ih _ (.inl ?_)
    have := x.2
    exact Nat.gcd_pos_of_pos_right _ (by omega)
/-- The content, with the sign of the leading coefficient; 0 for 0. -/
def cont (L : List Int) : Int := if lead L < 0 then -((gcdT L (tmx L L.length) : Nat) : Int) else ((gcdT L (tmx L L.length) : Nat) : Int)
theorem cont_ne (L : List Int) (h : trm L ≠ []) : cont L ≠ 0 := by
  have h1 : tmx L L.length ≠ [] := by
    intro e
    apply h
    rw [trm_nil_iff]
    intro i
    apply Classical.byContradiction
    intro h0
    have hi : i < L.length := by
      rcases Nat.lt_or_ge i L.length with h2 | h2
      · exact h2
      · exact absurd (co_ge h2) h0
    have := tmx_mem L L.length i h0 hi
    rw [e] at this
    cases this
  have h2 := gcdT_pos L _ h1
  unfold cont
  split <;> omega
theorem PolyC.wider {W : World} {base base' : Nat} {v : Value} {L : List Int} (h : PolyC W base v L) (hb : base' ≤ base) : PolyC W base' v L := by
  rcases h with h | ⟨b, n, c, h1, h2, h3, h4, h5⟩
  · exact .inl h
  · exact .inr ⟨b, n, c, h1, h2, h3, Nat.le_trans hb h4, h5⟩
theorem PolyC.kept {W W1 : World} {base : Nat} {v : Value} {L : List Int} {row : Option Nat} (h : PolyC W base v L) (hg : W.grownBy W1 row) (hr : ∀ r, row = some r → ∃ o : Obj, W.heap[r]? = some o ∧ o.isCells = false) : PolyC W1 base v L := by
  rcases h with h | ⟨b, n, c, h1, h2, h3, h4, g, s, h5, h6⟩
  · exact .inl h
  · exact .inr ⟨b, n, c, h1, h2, h3, h4, g, s, h5.kept hg hr, h6⟩
theorem block_keep {W W1 : World} {D : Nat} {o : Obj} (h : W.heap[D]? = some o) (hb : Below W.heap.size W W1) : W1.heap[D]? = some o := (hb.block D (Array.getElem?_eq_some_iff.1 h).1).trans h
/-- An integer's variable that is stored into. -/
def IVarF (W : World) (p : Nat) (g : Bool) (s : ByteArray) : Prop := IVar W p g s ∧ W.frozen? ⟨p, 0, none⟩ = false ∧ W.frozen? ⟨p, 1, none⟩ = false
theorem IVarF.keep {W W1 : World} {p : Nat} {g : Bool} {s : ByteArray} (h : IVarF W p g s) (hb : Below W.heap.size W W1) : IVarF W1 p g s := ⟨h.1.keep hb, frozen_keep h.1.1 h.2.1 hb, frozen_keep h.1.2 h.2.2 hb⟩
theorem IVarF.new (W : World) (g : Bool) (s : ByteArray) (t : TypeId) : IVarF (W.alloc (.cells #[.bool g, .string s] t)) W.heap.size g s := by refine ⟨IVar.new _ _ _ _, ?_, ?_⟩ <;> simp [go_sem]
theorem IVarF.kept {W W1 : World} {p : Nat} {g : Bool} {s : ByteArray} {row : Option Nat} (h : IVarF W p g s) (hg : W.grownBy W1 row) (hr : ∀ r, row = some r → ∃ o : Obj, W.heap[r]? = some o ∧ o.isCells = false) : IVarF W1 p g s :=
  ⟨h.1.kept hg hr, (frozen_kept h.1.1 hg hr).trans h.2.1, (frozen_kept h.1.2 hg hr).trans h.2.2⟩
theorem IVarF.set {W : World} {p : Nat} {g : Bool} {s : ByteArray} (h : IVarF W p g s) (g' : Bool) (s' : ByteArray) : IVarF ((W.setCell ⟨p, 0, none⟩ (.bool g')).setCell ⟨p, 1, none⟩ (.string s')) p g' s' := by
  obtain ⟨h1, h2⟩ := box_set (v1 := .bool g') (v2 := .string s') h.1.1 h.1.2
  exact ⟨⟨h1, h2⟩, by rw [World.frozen?_setCell, World.frozen?_setCell]; exact h.2.1, by rw [World.frozen?_setCell, World.frozen?_setCell]; exact h.2.2⟩
set_option maxRecDepth 100000 in
set_option maxHeartbeats 6400000 in
theorem prim_any (v1 : Value) (L C : List Int) (k : Nat) (w : World) (h1 : PolyAt w v1 L k) (hL : L.length ≤ 100000) (hk : k ≤ 1000000) (hC : C.length = (trm L).length) (hco : ∀ i, co C i = qD (co L i) (cont L)) :
    Calls Tryz.prog 64 #[v1] w (PolyOut w C) := by
  have H1 := Lib.hid h1
  have HO := Lib.hid (And.intro hC hco)
  have HP := Lib.hid h1.pb
  obtain ⟨A, c, g, s, rfl, hcells⟩ := h1.cells
  have HCL := Lib.hid hcells
  clear hco hC hcells
  refine (callsIn_wide (n := 8)).1 ?_
  refine callsIn_of_wp_marks Tryz.func64 rfl trivial ?_ rfl
  simp only [Tryz.ntmps64, List.size_toArray, List.length_cons, List.length_nil, Nat.reduceAdd, Nat.reduceSub, Array.replicate_succ, Array.replicate_zero, List.push_toArray, List.append_toArray, List.nil_append, List.cons_append]
  gi_wp2_with (refine ⟨trivial, ?_⟩; gi_at_call 46; (with_reducible refine (callsIn_wide.2 (terms_any A L.length c _)).mono ?_); rintro e W3 ⟨rfl, rfl⟩)
  have X0 := IVarF.new w false ⟨#[]⟩ 27
  have B0 := below1 w (.cells #[.bool false, .string ⟨#[]⟩] 27)
  have X4 := X0.keep (below1 _ (.cells #[.slice A L.length c] 22))
  have T4 := CVar.new (w.alloc (.cells #[.bool false, .string ⟨#[]⟩] 27)) (.slice A L.length c) 22
  rw [World.size_alloc] at T4
  have B4 := below_more B0 (Nat.le_refl _) (below1 _ (.cells #[.slice A L.length c] 22))
  generalize ((w.alloc (.cells #[.bool false, .string ⟨#[]⟩] 27)).alloc (.cells #[.slice A L.length c] 22)) = W4 at *
  have hT := T4.lt
  have C4 := HCL.out.keep B4
  clear X0 B0
  have HX0 := Lib.hid (show IVarF W4 w.heap.size (sg ((gcdT L [] : Nat) : Int)) (mg ((gcdT L [] : Nat) : Int)) by
    rw [show ((gcdT L [] : Nat) : Int) = 0 from rfl, sg_zero, mg_zero]; exact X4)
  refine wpIn_rangeFunc_ownH rfl (by omega) (gf := 83) (lb := #[.pointer (some ⟨w.heap.size + 1, 0, none⟩)]) rfl trivial (enters_of Tryz.func83 (by kernel_rfl) rfl)
    (terms_stops _ (w.heap.size + 1) w.heap.size c k A L g s W4 (by omega) (by omega) T4 B4.size C4) (fun h h' => h.trans h') (Kt.turn B4.size hT) (Below.refl _ _) (fun _ => rfl)
    (fun pre W => IVarF W w.heap.size (sg ((gcdT L pre : Nat) : Int)) (mg ((gcdT L pre : Nat) : Int)) ∧ CVar W (w.heap.size + 1) (.slice A L.length c) ∧ Below w.heap.size w W)
    (fun _ _ _ => False)
    (fun pre X Y row hs hg hr => ⟨hs.1.kept hg (fun r e => (hr r e).2), hs.2.1.kept hg (fun r e => (hr r e).2), hs.2.2.grown hg hs.2.2.size (fun r e => Nat.le_trans B4.size (hr r e).1)⟩)
    (fun _ _ _ _ _ hs _ _ => hs)
    ⟨HX0.out, T4, B4⟩
    (fun x a' W => ∃ Bx, w.heap.size + 1 < Bx ∧ IVar W Bx (g x.1) (s x.1) ∧ a' = { tmps := #[.slice A L.length c, undef, .slice none 0 0, .pointer (some ⟨w.heap.size, 0, none⟩), undef, .pointer (some ⟨Bx, 0, none⟩), .slice A L.length c, .func (.func 83) #[] #[.pointer (some ⟨w.heap.size + 1, 0, none⟩)], .int .i64 (x.1 : Int), .agg #[.bool (g x.1), .string (s x.1)], undef, undef, undef, undef, undef, undef, undef, undef, undef, undef, undef], defers := [] })
    (fun x a' _ X Y row hs hg hr => by
      obtain ⟨Bx, h1, h2, h3⟩ := hs
      exact ⟨Bx, h1, h2.kept hg (fun r e => (hr r e).2), h3⟩)
    ?assign ?body ?done ?stop
  case assign =>
    rintro l pre x W K ⟨i1, i4, i5⟩ hK
    have hKK := Lib.hid hK
    clear hK
    gi_wp2
    exact hKK.out _ _ ((KeepsOthers.alloc _ _).from _) (Kt.of_below (below1 W _) i5.size i4.lt) ⟨i1.keep (below1 W _), i4.keep (below1 W _), below_more i5 (Nat.le_refl _) (below1 W _)⟩ ⟨W.heap.size, i4.lt, IVar.new W _ _ _, rfl⟩
  case body =>
    rintro l pre x a' W hl ⟨r, hr⟩ ⟨i1, i4, i5⟩ ⟨Bx, hBx, bX, rfl⟩ hlt
    have hxL : x.1 < L.length := by have := trm_len L; have := x.lt; omega
    obtain ⟨-, -, -, -, -, hI⟩ := HCL.out x.1 hxL
    have HI := Lib.hid hI
    obtain ⟨q, Eq⟩ : ∃ q : Int, Hid (((Nat.gcd ((gcdT L pre : Nat) : Int).natAbs (co L x.1).natAbs : Nat) : Int) = q) := ⟨_, Lib.hid rfl⟩
    have HG := Lib.hid (isInt_mg (z := ((gcdT L pre : Nat) : Int)) (k := k) (by rw [Int.natAbs_natCast]; exact gcdT_lt L HP.out pre) (by omega))
    have HQ := Lib.hid (show ((gcdT L (pre ++ [x]) : Nat) : Int) = q by rw [gcdT_snoc, ← Eq.out, Int.natAbs_natCast])
    obtain ⟨⟨x1, x2⟩, x6, x7⟩ := id i1
    obtain ⟨x3, x4⟩ := id bX
    clear hI
    gi_wp2_with (refine ⟨trivial, ?_⟩; gi_at_call 89; refine (CallsIn.inRound l (callsIn_wide.2 (gcd_eq HG.out HI.out Eq.out))).mono ?_; rintro e W5 ⟨rfl, b5⟩; (have i1 := i1.keep b5); (obtain ⟨⟨x1, x2⟩, x6, x7⟩ := id i1))
    have HS := Lib.hid (i1.set (sg q) (mg q))
    have HK := Lib.hid (i4.keep b5)
    refine (show KeepsFrom W4.heap.size W _ ∧ Kt w.heap.size (w.heap.size + 1) W _ ∧ _ from ⟨((others_of_below b5).trans ((KeepsOthers.setCell _ _ _).trans (KeepsOthers.setCell _ _ _))).from _, ((Kt.of_below b5 i5.size i4.lt).set (a := ⟨w.heap.size, 0, none⟩) (Nat.le_refl _) (by dsimp only; omega) _).set (a := ⟨w.heap.size, 1, none⟩) (Nat.le_refl _) (by dsimp only; omega) _, ?_, (HK.out.far (a := ⟨w.heap.size, 0, none⟩) (by dsimp only; omega) _).far (a := ⟨w.heap.size, 1, none⟩) (by dsimp only; omega) _, ((below_more i5 (Nat.le_refl _) b5).setCell (p := ⟨w.heap.size, 0, none⟩) (Nat.le_refl _) _).setCell (p := ⟨w.heap.size, 1, none⟩) (Nat.le_refl _) _⟩)
    rw [HQ.out]
    exact HS.out
  case done =>
    rintro D xs W hD rfl ⟨i1, i4, i5⟩ hK
    have HGC := Lib.hid (isInt_mg (z := ((gcdT L (tmx L L.length) : Nat) : Int)) (k := k) (by rw [Int.natAbs_natCast]; exact gcdT_lt L HP.out _) (by omega))
    obtain ⟨G, EG⟩ : ∃ G : Int, Hid (((gcdT L (tmx L L.length) : Nat) : Int) = G) := ⟨_, Lib.hid rfl⟩
    rw [EG.out] at i1 HGC
    by_cases hneg : lead L < 0
    · have HC := Lib.hid (show cont L = -G by unfold cont; rw [if_pos hneg, EG.out])
      have hd : decide (lead L < 0) = true := decide_eq_true hneg
      obtain ⟨G2, EG2⟩ : ∃ G2 : Int, Hid (-G = G2) := ⟨_, Lib.hid rfl⟩
      have HC2 := Lib.hid (show IsInt (.agg #[.bool (sg G2), .string (mg G2)]) (cont L) k by
        rw [HC.out, EG2.out]
        refine isInt_mg ?_ (by omega)
        rw [← EG2.out, Int.natAbs_neg]
        exact HGC.out.bd)
      gi_wp2_with (refine ⟨trivial, ?_⟩; first
        | (gi_at_call 95; (with_reducible refine (callsIn_wide.2 (lead_any _ L k _ (H1.out.keep2 i5) (by omega) (by omega))).mono ?_); rintro e W5 ⟨g5, s5, rfl, I5, b5⟩; (have J5 := Lib.hid I5); (have B5 := below_more i5 (Nat.le_refl _) b5); (have Y5 := i1.keep b5); (have K5 := block_keep hK b5); (clear I5))
        | (gi_at_call 47; (with_reducible refine (callsIn_wide.2 (isneg_any _ _ k _ J5.out)).mono ?_); rintro e W6 ⟨rfl, b6⟩; (have B6 := below_more B5 (Nat.le_refl _) b6); (have Y6 := Y5.keep b6); (have K6 := block_keep K5 b6); (obtain ⟨⟨y1, y2⟩, y3, y4⟩ := id Y6))
        | (gi_at_call 48; (with_reducible refine (callsIn_wide.2 (ineg_eq HGC.out EG2.out)).mono ?_); rintro e W7 ⟨rfl, b7⟩; (have Y7 := Y6.keep b7); (obtain ⟨⟨y1, y2⟩, y3, y4⟩ := id Y7); (have B7 := ((below_more B6 (Nat.le_refl _) b7).setCell (p := ⟨w.heap.size, 0, none⟩) (Nat.le_refl _) (.bool (sg G2))).setCell (p := ⟨w.heap.size, 1, none⟩) (Nat.le_refl _) (.string (mg G2))); (have K7 := ((KeepsOthers.setCell W7 ⟨w.heap.size, 0, none⟩ (.bool (sg G2))).trans (KeepsOthers.setCell _ ⟨w.heap.size, 1, none⟩ (.string (mg G2)))).same D _ (block_keep K6 b7) rfl); (have Y8 := Y7.set (sg G2) (mg G2)); (obtain ⟨⟨z1, z2⟩, -⟩ := id Y8))
        | (gi_at_call 97; (with_reducible refine (callsIn_wide.2 (exq_any _ _ L C (cont L) k _ (H1.out.keep2 B7) HC2.out hL hk (cont_ne L) HO.out.1 HO.out.2)).mono ?_); rintro e W9 ⟨v9, rfl, P9, b9⟩; (have B9 := below_more B7 (Nat.le_refl _) b9); (have K9 := block_keep K7 b9); (have Q9 := Lib.hid (P9.wider B7.size)); (clear P9)))
      have R9 := Q9.out.kept (grownBy_putObj' W9 D (.deferred none)) (fun r e => by cases e; exact ⟨_, K9, rfl⟩)
      have B10 := below_put B9 D (Nat.le_trans B4.size hD) (.deferred none)
      refine ⟨by simp, .inl ⟨_, _, rfl, run_takeDeferred K9, ?_⟩⟩
      exact ⟨v9, by simp [results, Tryz.results64, go_sem], v9, rfl, R9, B10⟩
    · have HC := Lib.hid (show cont L = G by unfold cont; rw [if_neg hneg, EG.out])
      have hd : decide (lead L < 0) = false := decide_eq_false hneg
      have HC2 := Lib.hid (show IsInt (.agg #[.bool (sg G), .string (mg G)]) (cont L) k by rw [HC.out]; exact HGC.out)
      gi_wp2_with (refine ⟨trivial, ?_⟩; first
        | (gi_at_call 95; (with_reducible refine (callsIn_wide.2 (lead_any _ L k _ (H1.out.keep2 i5) (by omega) (by omega))).mono ?_); rintro e W5 ⟨g5, s5, rfl, I5, b5⟩; (have J5 := Lib.hid I5); (have B5 := below_more i5 (Nat.le_refl _) b5); (have Y5 := i1.keep b5); (have K5 := block_keep hK b5); (clear I5))
        | (gi_at_call 47; (with_reducible refine (callsIn_wide.2 (isneg_any _ _ k _ J5.out)).mono ?_); rintro e W6 ⟨rfl, b6⟩; (have B6 := below_more B5 (Nat.le_refl _) b6); (have Y6 := Y5.keep b6); (have K6 := block_keep K5 b6); (obtain ⟨⟨y1, y2⟩, y3, y4⟩ := id Y6))
        | (gi_at_call 97; (with_reducible refine (callsIn_wide.2 (exq_any _ _ L C (cont L) k _ (H1.out.keep2 B6) HC2.out hL hk (cont_ne L) HO.out.1 HO.out.2)).mono ?_); rintro e W9 ⟨v9, rfl, P9, b9⟩; (have B9 := below_more B6 (Nat.le_refl _) b9); (have K9 := block_keep K6 b9); (have Q9 := Lib.hid (P9.wider B6.size)); (clear P9)))
      have R9 := Q9.out.kept (grownBy_putObj' W9 D (.deferred none)) (fun r e => by cases e; exact ⟨_, K9, rfl⟩)
      have B10 := below_put B9 D (Nat.le_trans B4.size hD) (.deferred none)
      refine ⟨by simp, .inl ⟨_, _, rfl, run_takeDeferred K9, ?_⟩⟩
      exact ⟨v9, by simp [results, Tryz.results64, go_sem], v9, rfl, R9, B10⟩
  case stop =>
    rintro D cc pre W _ _ h _
    exact h.elim
end Go.Proofs.YtgcogpfmhmmgdaaGreatDoor

namespace Go.Proofs.YtgcogpfmhmmgdaaGreatDoor
open Go.RowKit
set_option linter.unusedSimpArgs false
set_option linter.unusedVariables false

theorem ResCell.far {W : World} {p : Nat} (h : ResCell W p) {a : Addr} (ha : p ≠ a.block) (u : Value) : ResCell (W.setCell a u) p := by
  obtain ⟨h1, h2, h3, h4⟩ := h
  refine ⟨?_, ?_, by rw [World.frozen?_setCell]; exact h3, by rw [World.frozen?_setCell]; exact h4⟩
  · rw [World.cell?_setCell_far _ _ _ _ (fun e => ha e.symm)]; exact h1
  · rw [World.cell?_setCell_far _ _ _ _ (fun e => ha e.symm)]; exact h2
theorem ResCell.lt {W : World} {p : Nat} (h : ResCell W p) : p < W.heap.size := World.block_lt_of_cell? W ⟨p, 0, none⟩ h.1
set_option maxRecDepth 100000 in
set_option maxHeartbeats 3200000 in
theorem ppow_any (v : Value) (z : Int) (k n kk : Nat) (w : World) (h : IsInt v z k) (hn : n ≤ 1000000) (hb : ∀ j, j ≤ n → (z ^ j).natAbs < 4294967296 ^ kk) (hkk : kk ≤ 10000000) :
    Calls Tryz.prog 98 #[v, .int .i64 (n : Int)] w (IntOut w (z ^ n)) := by
  have H := Lib.hid h
  have HB := Lib.hid hb
  have HK := Lib.hid hkk
  obtain ⟨g, s, rfl, -⟩ := h
  have X0 := IVar.new w g s 27
  have r := ResCell.new (w.alloc (.cells #[.bool g, .string s] 27)) 27
  rw [World.size_alloc] at r
  have X0 := X0.keep (below1 _ (.cells #[.bool false, .string ⟨#[]⟩] 27))
  have b0 := below2 w (.cells #[.bool g, .string s] 27) (.cells #[.bool false, .string ⟨#[]⟩] 27)
  clear hb hkk
  go_enter Tryz.func98, Tryz.ntmps98
  go_wp2_with fail
  refine (iof_any 1 _ (by omega) (by omega)).mono ?_
  rintro e W1 ⟨rfl, b1⟩
  have X1 := X0.keep b1
  have r1 := r.keep b1
  have B1 := below_more b0 (Nat.le_refl _) b1
  clear X0 r b0 b1
  have Y2 := IVarF.new W1 (sg 1) (mg 1) 27
  have X2 := X1.keep (below1 W1 (.cells #[.bool (sg 1), .string (mg 1)] 27))
  have r2 := r1.keep (below1 W1 (.cells #[.bool (sg 1), .string (mg 1)] 27))
  have B2 := below_more B1 (Nat.le_refl _) (below1 W1 (.cells #[.bool (sg 1), .string (mg 1)] 27))
  have hlt := r1.lt
  have hsz := B1.size
  go_wp2_with fail
  generalize (W1.alloc (.cells #[.bool (sg 1), .string (mg 1)] 27)) = W2 at *
  generalize W1.heap.size = bl at *
  clear X1 r1 B1
  go_loopg [8] n (fun q s8 wx => ∃ j : Nat, j + q = n ∧ s8 = .int .i64 (j : Int) ∧ IVarF wx bl (sg (z ^ j)) (mg (z ^ j)) ∧ IVar wx w.heap.size g s ∧ ResCell wx (w.heap.size + 1) ∧ Below w.heap.size w wx)
  case atStart => exact ⟨0, by omega, rfl, by rw [Int.pow_zero]; exact Y2, X2, r2, B2⟩
  case round =>
    clear X2 r2 Y2 B2
    obtain ⟨j, hj, rfl, Y, X, r, B⟩ := hrel
    obtain ⟨⟨y1, y2⟩, y3, y4⟩ := id Y
    rcases gk with _ | q
    · obtain rfl : j = n := by omega
      have hjj : ¬ (j : Int) < (j : Int) := by omega
      obtain ⟨r1, r2, r3, r4⟩ := id r
      go_wp2
      exact bodyPost_ret (v := .agg #[.bool (sg (z ^ j)), .string (mg (z ^ j))]) (by simp [results, Tryz.results98, go_sem, r1, r2, r3, r4]) rfl ⟨rfl, (B.setCell (Nat.le_succ _) _).setCell (Nat.le_succ _) _⟩
    · have hjn : (j : Int) < (n : Int) := by omega
      have HJ := Lib.hid hj
      obtain ⟨x1, x2⟩ := id X
      obtain ⟨z1, Hz1⟩ : ∃ z1 : Int, Hid (z ^ (j + 1) = z1) := ⟨_, Lib.hid rfl⟩
      have HI := Lib.hid (isInt_mg (z := z ^ j) (HB.out j (by omega)) HK.out)
      have HM := Lib.hid (show z ^ j * z = z1 by rw [← Hz1.out, Int.pow_succ])
      clear hj
      go_wp2_with fail
      refine (imul_eq HI.out H.out HM.out).mono ?_
      rintro e W3 ⟨rfl, b3⟩
      have Y3 := Y.keep b3
      have X3 := X.keep b3
      have r3 := r.keep b3
      have B3 := below_more B (Nat.le_refl _) b3
      have Z3 := Lib.hid (Y3.set (sg z1) (mg z1))
      obtain ⟨⟨y1, y2⟩, y3, y4⟩ := id Y3
      clear Y X r B b3
      go_wp2_with fail
      go_roundg q
      case measure => omega
      case rel => exact ⟨j + 1, by have := HJ.out; omega, by go_num, by rw [Hz1.out]; exact Z3.out, (X3.far (by dsimp only; omega) _).far (by dsimp only; omega) _, (r3.far (by dsimp only; omega) _).far (by dsimp only; omega) _, (B3.setCell (by dsimp only; omega) _).setCell (by dsimp only; omega) _⟩
/-- The sign in front of a term. -/
def sgT (neg first : Bool) : ByteArray := if first then (if neg then ⟨#[45]⟩ else ⟨#[]⟩) else (if neg then ⟨#[32, 45, 32]⟩ else ⟨#[32, 43, 32]⟩)
set_option maxRecDepth 100000 in
theorem sign_any (neg first : Bool) (w : World) :
    Calls Tryz.prog 50 #[.bool neg, .bool first] w fun e w' => e = .returned (.string (sgT neg first)) ∧ w' = w := by
  cases neg <;> cases first
  all_goals
    go_enter Tryz.func50, Tryz.ntmps50
    go_wp2
    go_ret
    exact ⟨rfl, rfl⟩
end Go.Proofs.YtgcogpfmhmmgdaaGreatDoor
