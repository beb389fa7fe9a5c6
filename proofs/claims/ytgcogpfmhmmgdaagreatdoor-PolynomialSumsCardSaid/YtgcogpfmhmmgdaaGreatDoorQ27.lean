/- What polynomial.primitive returns. Condition: at most 10^5 coefficients, of at most 10^6 digits to the base 2^32. What polynomial.power, a power of a number, and polynomial.sign return. Condition: at most 10^6 rounds, powers of at most 10^7 digits to the base 2^32. What polynomial.divide returns: the run of pseudo-division. Condition: a divisor other than 0, degrees below 200, coefficients of at most 1000 digits to the base 2^32. -/
import Derived.Test.YtgcogpfmhmmgdaaGreatDoorQ24
import Derived.Test.YtgcogpfmhmmgdaaGreatDoorQ26
import Derived.Test.YtgcogpfmhmmgdaaGreatDoorQ16

namespace Go.Proofs.YtgcogpfmhmmgdaaGreatDoor
open Go.RowKit Go.Shelf
attribute [local go_sem] Oper.semAt_some
set_option linter.unusedSimpArgs false
set_option linter.unusedVariables false

/-- The greatest common divisor of some coefficients. -/
def gcdT (L : List Int) (pre : List (Tm L)) : Nat := pre.foldl (fun a x => Nat.gcd a (co L x.1).natAbs) 0
theorem gcdT_snoc (L : List Int) (pre : List (Tm L)) (x : Tm L) : gcdT L (pre ++ [x]) = Nat.gcd (gcdT L pre) (co L x.1).natAbs := by
  unfold gcdT
  rw [List.foldl_append]; rfl
theorem gcdT_lt (L : List Int) {k : Nat} (h : PB L k) (pre : List (Tm L)) : gcdT L pre < 4294967296 ^ k := by
  suffices h9 : ∀ (pre : List (Tm L)) (a : Nat), a < 4294967296 ^ k → pre.foldl (fun a x => Nat.gcd a (co L x.1).natAbs) a < 4294967296 ^ k from h9 pre 0 (Nat.pow_pos (by omega))
  intro pre
  induction pre with
  | nil => intro a ha; exact ha
  | cons x pre ih =>
    intro a ha
    refine ih _ ?_
    show Nat.gcd a (co L x.1).natAbs < _
    by_cases h0 : a = 0
    · rw [h0, Nat.gcd_zero_left]; exact h x.1
    · exact Nat.lt_of_le_of_lt (Nat.gcd_le_left _ (Nat.pos_of_ne_zero h0)) ha
theorem gcdT_pos (L : List Int) (pre : List (Tm L)) (h : pre ≠ []) : 0 < gcdT L pre := by
  suffices h9 : ∀ (pre : List (Tm L)) (a : Nat), (0 < a ∨ pre ≠ []) → 0 < pre.foldl (fun a x => Nat.gcd a (co L x.1).natAbs) a from h9 pre 0 (.inr h)
  intro pre
  induction pre with
  | nil => intro a ha; rcases ha with ha | ha; exact ha; exact absurd rfl ha
  | cons x pre ih =>
    intro a ha
    refine ih _ (.inl ?_)
    have := x.2
    exact Nat.gcd_pos_of_pos_right _ (by omega)
/-- The content, with the sign of the leading coefficient; 0 for 0. -/
def cont (L : List Int) : Int := if lead L < 0 then -((gcdT L (tmx L L.length) : Nat) : Int) else ((gcdT L (tmx L L.length) : Nat) : Int)
theorem cont_ne (L : List Int) (h : trm L ≠ []) : cont L ≠ 0 := by
  have h1 : tmx L L.length ≠ [] := by
    intro e
    apply h
    rw [trm_nil_iff]
    intro i
    apply Classical.byContradiction
    intro h0
    have hi : i < L.length := by
      rcases Nat.lt_or_ge i L.length with h2 | h2
      · exact h2
      · exact absurd (co_ge h2) h0
    have := tmx_mem L L.length i h0 hi
    rw [e] at this
    cases this
  have h2 := gcdT_pos L _ h1
  unfold cont
  split <;> omega
theorem PolyC.wider {W : World} {base base' : Nat} {v : Value} {L : List Int} (h : PolyC W base v L) (hb : base' ≤ base) : PolyC W base' v L := by
  rcases h with h | ⟨b, n, c, h1, h2, h3, h4, h5⟩
  · exact .inl h
  · exact .inr ⟨b, n, c, h1, h2, h3, Nat.le_trans hb h4, h5⟩
theorem PolyC.kept {W W1 : World} {base : Nat} {v : Value} {L : List Int} {row : Option Nat} (h : PolyC W base v L) (hg : W.grownBy W1 row) (hr : ∀ r, row = some r → ∃ o : Obj, W.heap[r]? = some o ∧ o.isCells = false) : PolyC W1 base v L := by
  rcases h with h | ⟨b, n, c, h1, h2, h3, h4, g, s, h5, h6⟩
  · exact .inl h
  · exact .inr ⟨b, n, c, h1, h2, h3, h4, g, s, h5.kept hg hr, h6⟩
theorem block_keep {W W1 : World} {D : Nat} {o : Obj} (h : W.heap[D]? = some o) (hb : Below W.heap.size W W1) : W1.heap[D]? = some o := (hb.block D (Array.getElem?_eq_some_iff.1 h).1).trans h
/-- An integer's variable that is stored into. -/
def IVarF (W : World) (p : Nat) (g : Bool) (s : ByteArray) : Prop := IVar W p g s ∧ W.frozen? ⟨p, 0, none⟩ = false ∧ W.frozen? ⟨p, 1, none⟩ = false
theorem IVarF.keep {W W1 : World} {p : Nat} {g : Bool} {s : ByteArray} (h : IVarF W p g s) (hb : Below W.heap.size W W1) : IVarF W1 p g s := ⟨h.1.keep hb, frozen_keep h.1.1 h.2.1 hb, frozen_keep h.1.2 h.2.2 hb⟩
theorem IVarF.new (W : World) (g : Bool) (s : ByteArray) (t : TypeId) : IVarF (W.alloc (.cells #[.bool g, .string s] t)) W.heap.size g s := by refine ⟨IVar.new _ _ _ _, ?_, ?_⟩ <;> simp [go_sem]
theorem IVarF.kept {W W1 : World} {p : Nat} {g : Bool} {s : ByteArray} {row : Option Nat} (h : IVarF W p g s) (hg : W.grownBy W1 row) (hr : ∀ r, row = some r → ∃ o : Obj, W.heap[r]? = some o ∧ o.isCells = false) : IVarF W1 p g s :=
  ⟨h.1.kept hg hr, (frozen_kept h.1.1 hg hr).trans h.2.1, (frozen_kept h.1.2 hg hr).trans h.2.2⟩
theorem IVarF.set {W : World} {p : Nat} {g : Bool} {s : ByteArray} (h : IVarF W p g s) (g' : Bool) (s' : ByteArray) : IVarF ((W.setCell ⟨p, 0, none⟩ (.bool g')).setCell ⟨p, 1, none⟩ (.string s')) p g' s' := by
  obtain ⟨h1, h2⟩ := box_set (v1 := .bool g') (v2 := .string s') h.1.1 h.1.2
  exact ⟨⟨h1, h2⟩, by rw [World.frozen?_setCell, World.frozen?_setCell]; exact h.2.1, by rw [World.frozen?_setCell, World.frozen?_setCell]; exact h.2.2⟩
set_option maxRecDepth 100000 in
set_option maxHeartbeats 6400000 in
theorem prim_any (v1 : Value) (L C : List Int) (k : Nat) (w : World) (h1 : PolyAt w v1 L k) (hL : L.length ≤ 100000) (hk : k ≤ 1000000) (hC : C.length = (trm L).length) (hco : ∀ i, co C i = qD (co L i) (cont L)) :
    Calls Tryz.prog 64 #[v1] w (PolyOut w C) := by
  have H1 := Lib.hid h1
  have HO := Lib.hid (And.intro hC hco)
  have HP := Lib.hid h1.pb
  obtain ⟨A, c, g, s, rfl, hcells⟩ := h1.cells
  have HCL := Lib.hid hcells
  clear hco hC hcells
  refine (callsIn_wide (n := 8)).1 ?_
  refine callsIn_of_wp_marks Tryz.func64 rfl trivial ?_ rfl
  simp only [Tryz.ntmps64, List.size_toArray, List.length_cons, List.length_nil, Nat.reduceAdd, Nat.reduceSub, Array.replicate_succ, Array.replicate_zero, List.push_toArray, List.append_toArray, List.nil_append, List.cons_append]
  gi_wp2_with (refine ⟨trivial, ?_⟩; gi_at_call 46; (with_reducible refine (callsIn_wide.2 (terms_any A L.length c _)).mono ?_); rintro e W3 ⟨rfl, rfl⟩)
  have X0 := IVarF.new w false ⟨#[]⟩ 27
  have B0 := below1 w (.cells #[.bool false, .string ⟨#[]⟩] 27)
  have X4 := X0.keep (below1 _ (.cells #[.slice A L.length c] 22))
  have T4 := CVar.new (w.alloc (.cells #[.bool false, .string ⟨#[]⟩] 27)) (.slice A L.length c) 22
  rw [World.size_alloc] at T4
  have B4 := below_more B0 (Nat.le_refl _) (below1 _ (.cells #[.slice A L.length c] 22))
  generalize ((w.alloc (.cells #[.bool false, .string ⟨#[]⟩] 27)).alloc (.cells #[.slice A L.length c] 22)) = W4 at *
  have hT := T4.lt
  have C4 := HCL.out.keep B4
  clear X0 B0
  have HX0 := Lib.hid (show IVarF W4 w.heap.size (sg ((gcdT L [] : Nat) : Int)) (mg ((gcdT L [] : Nat) : Int)) by
    rw [show ((gcdT L [] : Nat) : Int) = 0 from rfl, sg_zero, mg_zero]; exact X4)
  refine wpIn_rangeFunc_ownH rfl (by omega) (gf := 83) (lb := #[.pointer (some ⟨w.heap.size + 1, 0, none⟩)]) rfl trivial (enters_of Tryz.func83 (by kernel_rfl) rfl)
    (terms_stops _ (w.heap.size + 1) w.heap.size c k A L g s W4 (by omega) (by omega) T4 B4.size C4) (fun h h' => h.trans h') (Kt.turn B4.size hT) (Below.refl _ _) (fun _ => rfl)
    (fun pre W => IVarF W w.heap.size (sg ((gcdT L pre : Nat) : Int)) (mg ((gcdT L pre : Nat) : Int)) ∧ CVar W (w.heap.size + 1) (.slice A L.length c) ∧ Below w.heap.size w W)
    (fun _ _ _ => False)
    (fun pre X Y row hs hg hr => ⟨hs.1.kept hg (fun r e => (hr r e).2), hs.2.1.kept hg (fun r e => (hr r e).2), hs.2.2.grown hg hs.2.2.size (fun r e => Nat.le_trans B4.size (hr r e).1)⟩)
    (fun _ _ _ _ _ hs _ _ => hs)
    ⟨HX0.out, T4, B4⟩
    (fun x a' W => ∃ Bx, w.heap.size + 1 < Bx ∧ IVar W Bx (g x.1) (s x.1) ∧ a' = { tmps := #[.slice A L.length c, undef, .slice none 0 0, .pointer (some ⟨w.heap.size, 0, none⟩), undef, .pointer (some ⟨Bx, 0, none⟩), .slice A L.length c, .func (.func 83) #[] #[.pointer (some ⟨w.heap.size + 1, 0, none⟩)], .int .i64 (x.1 : Int), .agg #[.bool (g x.1), .string (s x.1)], undef, undef, undef, undef, undef, undef, undef, undef, undef, undef, undef], defers := [] })
    (fun x a' _ X Y row hs hg hr => by
      obtain ⟨Bx, h1, h2, h3⟩ := hs
      exact ⟨Bx, h1, h2.kept hg (fun r e => (hr r e).2), h3⟩)
    ?assign ?body ?done ?stop
  case assign =>
    rintro l pre x W K ⟨i1, i4, i5⟩ hK
    have hKK := Lib.hid hK
    clear hK
    gi_wp2
    exact hKK.out _ _ ((KeepsOthers.alloc _ _).from _) (Kt.of_below (below1 W _) i5.size i4.lt) ⟨i1.keep (below1 W _), i4.keep (below1 W _), below_more i5 (Nat.le_refl _) (below1 W _)⟩ ⟨W.heap.size, i4.lt, IVar.new W _ _ _, rfl⟩
  case body =>
    rintro l pre x a' W hl ⟨r, hr⟩ ⟨i1, i4, i5⟩ ⟨Bx, hBx, bX, rfl⟩ hlt
    have hxL : x.1 < L.length := by have := trm_len L; have := x.lt; omega
    obtain ⟨-, -, -, -, -, hI⟩ := HCL.out x.1 hxL
    have HI := Lib.hid hI
    obtain ⟨q, Eq⟩ : ∃ q : Int, Hid (((Nat.gcd ((gcdT L pre : Nat) : Int).natAbs (co L x.1).natAbs : Nat) : Int) = q) := ⟨_, Lib.hid rfl⟩
    have HG := Lib.hid (isInt_mg (z := ((gcdT L pre : Nat) : Int)) (k := k) (by rw [Int.natAbs_natCast]; exact gcdT_lt L HP.out pre) (by omega))
    have HQ := Lib.hid (show ((gcdT L (pre ++ [x]) : Nat) : Int) = q by rw [gcdT_snoc, ← Eq.out, Int.natAbs_natCast])
    obtain ⟨⟨x1, x2⟩, x6, x7⟩ := id i1
    obtain ⟨x3, x4⟩ := id bX
    clear hI
    gi_wp2_with (refine ⟨trivial, ?_⟩; gi_at_call 89; refine (CallsIn.inRound l (callsIn_wide.2 (gcd_eq HG.out HI.out Eq.out))).mono ?_; rintro e W5 ⟨rfl, b5⟩; (have i1 := i1.keep b5); (obtain ⟨⟨x1, x2⟩, x6, x7⟩ := id i1))
    have HS := Lib.hid (i1.set (sg q) (mg q))
    have HK := Lib.hid (i4.keep b5)
    refine (show KeepsFrom W4.heap.size W _ ∧ Kt w.heap.size (w.heap.size + 1) W _ ∧ _ from ⟨((others_of_below b5).trans ((KeepsOthers.setCell _ _ _).trans (KeepsOthers.setCell _ _ _))).from _, ((Kt.of_below b5 i5.size i4.lt).set (a := ⟨w.heap.size, 0, none⟩) (Nat.le_refl _) (by dsimp only; omega) _).set (a := ⟨w.heap.size, 1, none⟩) (Nat.le_refl _) (by dsimp only; omega) _, ?_, (HK.out.far (a := ⟨w.heap.size, 0, none⟩) (by dsimp only; omega) _).far (a := ⟨w.heap.size, 1, none⟩) (by dsimp only; omega) _, ((below_more i5 (Nat.le_refl _) b5).setCell (p := ⟨w.heap.size, 0, none⟩) (Nat.le_refl _) _).setCell (p := ⟨w.heap.size, 1, none⟩) (Nat.le_refl _) _⟩)
    rw [HQ.out]
    exact HS.out
  case done =>
    rintro D xs W hD rfl ⟨i1, i4, i5⟩ hK
    have HGC := Lib.hid (isInt_mg (z := ((gcdT L (tmx L L.length) : Nat) : Int)) (k := k) (by rw [Int.natAbs_natCast]; exact gcdT_lt L HP.out _) (by omega))
    obtain ⟨G, EG⟩ : ∃ G : Int, Hid (((gcdT L (tmx L L.length) : Nat) : Int) = G) := ⟨_, Lib.hid rfl⟩
    rw [EG.out] at i1 HGC
    by_cases hneg : lead L < 0
    · have HC := Lib.hid (show cont L = -G by unfold cont; rw [if_pos hneg, EG.out])
      have hd : decide (lead L < 0) = true := decide_eq_true hneg
      obtain ⟨G2, EG2⟩ : ∃ G2 : Int, Hid (-G = G2) := ⟨_, Lib.hid rfl⟩
      have HC2 := Lib.hid (show IsInt (.agg #[.bool (sg G2), .string (mg G2)]) (cont L) k by
        rw [HC.out, EG2.out]
        refine isInt_mg ?_ (by omega)
        rw [← EG2.out, Int.natAbs_neg]
        exact HGC.out.bd)
      gi_wp2_with (refine ⟨trivial, ?_⟩; first
        | (gi_at_call 95; (with_reducible refine (callsIn_wide.2 (lead_any _ L k _ (H1.out.keep2 i5) (by omega) (by omega))).mono ?_); rintro e W5 ⟨g5, s5, rfl, I5, b5⟩; (have J5 := Lib.hid I5); (have B5 := below_more i5 (Nat.le_refl _) b5); (have Y5 := i1.keep b5); (have K5 := block_keep hK b5); (clear I5))
        | (gi_at_call 47; (with_reducible refine (callsIn_wide.2 (isneg_any _ _ k _ J5.out)).mono ?_); rintro e W6 ⟨rfl, b6⟩; (have B6 := below_more B5 (Nat.le_refl _) b6); (have Y6 := Y5.keep b6); (have K6 := block_keep K5 b6); (obtain ⟨⟨y1, y2⟩, y3, y4⟩ := id Y6))
        | (gi_at_call 48; (with_reducible refine (callsIn_wide.2 (ineg_eq HGC.out EG2.out)).mono ?_); rintro e W7 ⟨rfl, b7⟩; (have Y7 := Y6.keep b7); (obtain ⟨⟨y1, y2⟩, y3, y4⟩ := id Y7); (have B7 := ((below_more B6 (Nat.le_refl _) b7).setCell (p := ⟨w.heap.size, 0, none⟩) (Nat.le_refl _) (.bool (sg G2))).setCell (p := ⟨w.heap.size, 1, none⟩) (Nat.le_refl _) (.string (mg G2))); (have K7 := ((KeepsOthers.setCell W7 ⟨w.heap.size, 0, none⟩ (.bool (sg G2))).trans (KeepsOthers.setCell _ ⟨w.heap.size, 1, none⟩ (.string (mg G2)))).same D _ (block_keep K6 b7) rfl); (have Y8 := Y7.set (sg G2) (mg G2)); (obtain ⟨⟨z1, z2⟩, -⟩ := id Y8))
        | (gi_at_call 97; (with_reducible refine (callsIn_wide.2 (exq_any _ _ L C (cont L) k _ (H1.out.keep2 B7) HC2.out hL hk (cont_ne L) HO.out.1 HO.out.2)).mono ?_); rintro e W9 ⟨v9, rfl, P9, b9⟩; (have B9 := below_more B7 (Nat.le_refl _) b9); (have K9 := block_keep K7 b9); (have Q9 := Lib.hid (P9.wider B7.size)); (clear P9)))
      have R9 := Q9.out.kept (grownBy_putObj' W9 D (.deferred none)) (fun r e => by cases e; exact ⟨_, K9, rfl⟩)
      have B10 := below_put B9 D (Nat.le_trans B4.size hD) (.deferred none)
      refine ⟨by simp, .inl ⟨_, _, rfl, run_takeDeferred K9, ?_⟩⟩
      exact ⟨v9, by simp [results, Tryz.results64, go_sem], v9, rfl, R9, B10⟩
    · have HC := Lib.hid (show cont L = G by unfold cont; rw [if_neg hneg, EG.out])
      have hd : decide (lead L < 0) = false := decide_eq_false hneg
      have HC2 := Lib.hid (show IsInt (.agg #[.bool (sg G), .string (mg G)]) (cont L) k by rw [HC.out]; exact HGC.out)
      gi_wp2_with (refine ⟨trivial, ?_⟩; first
        | (gi_at_call 95; (with_reducible refine (callsIn_wide.2 (lead_any _ L k _ (H1.out.keep2 i5) (by omega) (by omega))).mono ?_); rintro e W5 ⟨g5, s5, rfl, I5, b5⟩; (have J5 := Lib.hid I5); (have B5 := below_more i5 (Nat.le_refl _) b5); (have Y5 := i1.keep b5); (have K5 := block_keep hK b5); (clear I5))
        | (gi_at_call 47; (with_reducible refine (callsIn_wide.2 (isneg_any _ _ k _ J5.out)).mono ?_); rintro e W6 ⟨rfl, b6⟩; (have B6 := below_more B5 (Nat.le_refl _) b6); (have Y6 := Y5.keep b6); (have K6 := block_keep K5 b6); (obtain ⟨⟨y1, y2⟩, y3, y4⟩ := id Y6))
        | (gi_at_call 97; (with_reducible refine (callsIn_wide.2 (exq_any _ _ L C (cont L) k _ (H1.out.keep2 B6) HC2.out hL hk (cont_ne L) HO.out.1 HO.out.2)).mono ?_); rintro e W9 ⟨v9, rfl, P9, b9⟩; (have B9 := below_more B6 (Nat.le_refl _) b9); (have K9 := block_keep K6 b9); (have Q9 := Lib.hid (P9.wider B6.size)); (clear P9)))
      have R9 := Q9.out.kept (grownBy_putObj' W9 D (.deferred none)) (fun r e => by cases e; exact ⟨_, K9, rfl⟩)
      have B10 := below_put B9 D (Nat.le_trans B4.size hD) (.deferred none)
      refine ⟨by simp, .inl ⟨_, _, rfl, run_takeDeferred K9, ?_⟩⟩
      exact ⟨v9, by simp [results, Tryz.results64, go_sem], v9, rfl, R9, B10⟩
  case stop =>
    rintro D cc pre W _ _ h _
    exact h.elim
end Go.Proofs.YtgcogpfmhmmgdaaGreatDoor

namespace Go.Proofs.YtgcogpfmhmmgdaaGreatDoor
open Go.RowKit
set_option linter.unusedSimpArgs false
set_option linter.unusedVariables false

theorem ResCell.far {W : World} {p : Nat} (h : ResCell W p) {a : Addr} (ha : p ≠ a.block) (u : Value) : ResCell (W.setCell a u) p := by
  obtain ⟨h1, h2, h3, h4⟩ := h
  refine ⟨?_, ?_, by rw [World.frozen?_setCell]; exact h3, by rw [World.frozen?_setCell]; exact h4⟩
  · rw [World.cell?_setCell_far _ _ _ _ (fun e => ha e.symm)]; exact h1
  · rw [World.cell?_setCell_far _ _ _ _ (fun e => ha e.symm)]; exact h2
theorem ResCell.lt {W : World} {p : Nat} (h : ResCell W p) : p < W.heap.size := World.block_lt_of_cell? W ⟨p, 0, none⟩ h.1
set_option maxRecDepth 100000 in
set_option maxHeartbeats 3200000 in
theorem ppow_any (v : Value) (z : Int) (k n kk : Nat) (w : World) (h : IsInt v z k) (hn : n ≤ 1000000) (hb : ∀ j, j ≤ n → (z ^ j).natAbs < 4294967296 ^ kk) (hkk : kk ≤ 10000000) :
    Calls Tryz.prog 98 #[v, .int .i64 (n : Int)] w (IntOut w (z ^ n)) := by
  have H := Lib.hid h
  have HB := Lib.hid hb
  have HK := Lib.hid hkk
  obtain ⟨g, s, rfl, -⟩ := h
  have X0 := IVar.new w g s 27
  have r := ResCell.new (w.alloc (.cells #[.bool g, .string s] 27)) 27
  rw [World.size_alloc] at r
  have X0 := X0.keep (below1 _ (.cells #[.bool false, .string ⟨#[]⟩] 27))
  have b0 := below2 w (.cells #[.bool g, .string s] 27) (.cells #[.bool false, .string ⟨#[]⟩] 27)
  clear hb hkk
  go_enter Tryz.func98, Tryz.ntmps98
  go_wp2_with fail
  refine (iof_any 1 _ (by omega) (by omega)).mono ?_
  rintro e W1 ⟨rfl, b1⟩
  have X1 := X0.keep b1
  have r1 := r.keep b1
  have B1 := below_more b0 (Nat.le_refl _) b1
  clear X0 r b0 b1
  have Y2 := IVarF.new W1 (sg 1) (mg 1) 27
  have X2 := X1.keep (below1 W1 (.cells #[.bool (sg 1), .string (mg 1)] 27))
  have r2 := r1.keep (below1 W1 (.cells #[.bool (sg 1), .string (mg 1)] 27))
  have B2 := below_more B1 (Nat.le_refl _) (below1 W1 (.cells #[.bool (sg 1), .string (mg 1)] 27))
  have hlt := r1.lt
  have hsz := B1.size
  go_wp2_with fail
  generalize (W1.alloc (.cells #[.bool (sg 1), .string (mg 1)] 27)) = W2 at *
  generalize W1.heap.size = bl at *
  clear X1 r1 B1
  go_loopg [8] n (fun q s8 wx => ∃ j : Nat, j + q = n ∧ s8 = .int .i64 (j : Int) ∧ IVarF wx bl (sg (z ^ j)) (mg (z ^ j)) ∧ IVar wx w.heap.size g s ∧ ResCell wx (w.heap.size + 1) ∧ Below w.heap.size w wx)
  case atStart => exact ⟨0, by omega, rfl, by rw [Int.pow_zero]; exact Y2, X2, r2, B2⟩
  case round =>
    clear X2 r2 Y2 B2
    obtain ⟨j, hj, rfl, Y, X, r, B⟩ := hrel
    obtain ⟨⟨y1, y2⟩, y3, y4⟩ := id Y
    rcases gk with _ | q
    · obtain rfl : j = n := by omega
      have hjj : ¬ (j : Int) < (j : Int) := by omega
      obtain ⟨r1, r2, r3, r4⟩ := id r
      go_wp2
      exact bodyPost_ret (v := .agg #[.bool (sg (z ^ j)), .string (mg (z ^ j))]) (by simp [results, Tryz.results98, go_sem, r1, r2, r3, r4]) rfl ⟨rfl, (B.setCell (Nat.le_succ _) _).setCell (Nat.le_succ _) _⟩
    · have hjn : (j : Int) < (n : Int) := by omega
      have HJ := Lib.hid hj
      obtain ⟨x1, x2⟩ := id X
      obtain ⟨z1, Hz1⟩ : ∃ z1 : Int, Hid (z ^ (j + 1) = z1) := ⟨_, Lib.hid rfl⟩
      have HI := Lib.hid (isInt_mg (z := z ^ j) (HB.out j (by omega)) HK.out)
      have HM := Lib.hid (show z ^ j * z = z1 by rw [← Hz1.out, Int.pow_succ])
      clear hj
      go_wp2_with fail
      refine (imul_eq HI.out H.out HM.out).mono ?_
      rintro e W3 ⟨rfl, b3⟩
      have Y3 := Y.keep b3
      have X3 := X.keep b3
      have r3 := r.keep b3
      have B3 := below_more B (Nat.le_refl _) b3
      have Z3 := Lib.hid (Y3.set (sg z1) (mg z1))
      obtain ⟨⟨y1, y2⟩, y3, y4⟩ := id Y3
      clear Y X r B b3
      go_wp2_with fail
      go_roundg q
      case measure => omega
      case rel => exact ⟨j + 1, by have := HJ.out; omega, by go_num, by rw [Hz1.out]; exact Z3.out, (X3.far (by dsimp only; omega) _).far (by dsimp only; omega) _, (r3.far (by dsimp only; omega) _).far (by dsimp only; omega) _, (B3.setCell (by dsimp only; omega) _).setCell (by dsimp only; omega) _⟩
/-- The sign in front of a term. -/
def sgT (neg first : Bool) : ByteArray := if first then (if neg then ⟨#[45]⟩ else ⟨#[]⟩) else (if neg then ⟨#[32, 45, 32]⟩ else ⟨#[32, 43, 32]⟩)
set_option maxRecDepth 100000 in
theorem sign_any (neg first : Bool) (w : World) :
    Calls Tryz.prog 50 #[.bool neg, .bool first] w fun e w' => e = .returned (.string (sgT neg first)) ∧ w' = w := by
  cases neg <;> cases first
  all_goals
    go_enter Tryz.func50, Tryz.ntmps50
    go_wp2
    go_ret
    exact ⟨rfl, rfl⟩
end Go.Proofs.YtgcogpfmhmmgdaaGreatDoor

namespace Go.Proofs.YtgcogpfmhmmgdaaGreatDoor
open Go.RowKit Go.Shelf
set_option linter.unusedSimpArgs false
set_option linter.unusedVariables false

theorem trm_le {L : List Int} {n : Nat} (h : ∀ i, n ≤ i → co L i = 0) : (trm L).length ≤ n := by
  rcases Nat.eq_zero_or_pos (trm L).length with h0 | h0
  · omega
  · have h1 := trm_last L (n := (trm L).length - 1) (by omega)
    apply Classical.byContradiction
    intro h2
    exact h1 (h _ (by omega))
theorem mulp_zero (v1 v2 : Value) (L C : List Int) (d : Int) (k : Nat) (w : World) (h1 : PolyAt w v1 L k) (h2 : IsInt v2 d k) (hL : L.length ≤ 100000) (hk : k ≤ 1000000) (hC : trm C = C) (hco : ∀ i, co C i = d * co L i) :
    Calls Tryz.prog 96 #[v1, v2, .int .i64 0] w (PolyOut w C) :=
  mulp_any v1 v2 L C d 0 k 0 w h1 h2 hL (by omega) hk hC (fun i => by rw [if_neg (by omega), Nat.sub_zero, hco i, Int.mul_comm])
/-- The variables of the numbers, and the list of 1. -/
def DV (w W : World) (b7 : Nat) (gl : Bool) (sl : ByteArray) (v1 : Value) : Prop := IVar W b7 gl sl ∧ PolyAt W v1 [1] 1 ∧ Below w.heap.size w W
theorem DV.keep {w W W1 : World} {b7 : Nat} {gl : Bool} {sl : ByteArray} {v1 : Value} (h : DV w W b7 gl sl v1) (hb : Below W.heap.size W W1) : DV w W1 b7 gl sl v1 := ⟨h.1.keep hb, h.2.1.keep hb, below_more h.2.2 (Nat.le_refl _) hb⟩
/-- What the regions have at hand: the rest and the quotient, too. -/
def DW (w W : World) (b7 b12 : Nat) (gl gf : Bool) (sl sf : ByteArray) (v1 v9 v10 : Value) (Q R : List Int) : Prop := DV w W b7 gl sl v1 ∧ IVar W b12 gf sf ∧ PolyC W w.heap.size v9 Q ∧ PolyC W w.heap.size v10 R
theorem DW.keep {w W W1 : World} {b7 b12 : Nat} {gl gf : Bool} {sl sf : ByteArray} {v1 v9 v10 : Value} {Q R : List Int} (h : DW w W b7 b12 gl gf sl sf v1 v9 v10 Q R) (hb : Below W.heap.size W W1) : DW w W1 b7 b12 gl gf sl sf v1 v9 v10 Q R := ⟨h.1.keep hb, h.2.1.keep hb, h.2.2.1.keep hb, h.2.2.2.keep hb⟩
theorem PolyC.into {W W1 : World} {base : Nat} {v : Value} {L : List Int} (h : PolyC W base v L) (hb : Below W.heap.size W W1) : PolyC W1 base v L := h.keep hb
theorem one_at (W : World) (t : TypeId) (g : Bool) (s : ByteArray) (h : IsInt (.agg #[.bool g, .string s]) 1 1) : PolyAt (W.alloc (.cells #[.bool g, .string s] t)) (.slice (some ⟨W.heap.size, 0, none⟩) 1 1) [1] 1 := by
  refine ⟨some ⟨W.heap.size, 0, none⟩, 1, fun _ => g, fun _ => s, rfl, by simp, fun i hi => ⟨_, rfl, ?_, ?_, ?_⟩⟩
  · obtain rfl : i = 0 := by simpa using hi
    simp [go_sem, Addr.add]
  · obtain rfl : i = 0 := by simpa using hi
    simp [go_sem, Addr.add]
  · obtain rfl : i = 0 := by simpa using hi
    exact h
theorem bd2 {a b : Int} {k kj : Nat} (h1 : a.natAbs < 4294967296 ^ (k + kj)) (h2 : b.natAbs < 4294967296 ^ (k + kj)) : (a + b).natAbs < 4294967296 ^ (k + kj + 1) ∧ (a - b).natAbs < 4294967296 ^ (k + kj + 1) := by
  have h3 := Int.natAbs_add_le a b
  have h4 := Int.natAbs_sub_le a b
  rw [Nat.pow_succ]
  omega
theorem bdm {a b : Int} {k kj : Nat} (h1 : a.natAbs < 4294967296 ^ k) (h2 : b.natAbs < 4294967296 ^ kj) : (a * b).natAbs < 4294967296 ^ (k + kj) := by
  rw [Int.natAbs_mul, Nat.pow_add]
  exact Nat.mul_lt_mul'' h1 h2
theorem stepQ_facts {c f : Int} {p k kj m : Nat} {Q : List Int} (hc : c.natAbs < 4294967296 ^ k) (hf : f.natAbs < 4294967296 ^ kj) (hQ : PB Q kj) (hl : Q.length ≤ m) (hp : p < m) : PB (stepQ c p f Q) (k + kj + 1) ∧ (stepQ c p f Q).length ≤ m ∧ ∀ i, co (stepQ c p f Q) i = co (trm (scal c Q)) i + co (trm (shf p [f])) i := by
  have hco : ∀ i, co (stepQ c p f Q) i = c * co Q i + if i < p then 0 else co [f] (i - p) := fun i => by unfold stepQ; rw [co_trm, co_addL, co_scal, co_shf]
  refine ⟨fun i => ?_, ?_, fun i => ?_⟩
  · rw [hco i]
    refine (bd2 (bdm hc (hQ i)) ?_).1
    split
    · exact Nat.pow_pos (by omega)
    · rcases Nat.eq_zero_or_pos (i - p) with h | h
      · rw [h]; show f.natAbs < _; exact Nat.lt_of_lt_of_le hf (Nat.pow_le_pow_right (by omega) (by omega))
      · rw [co_ge (by simp; omega)]; exact Nat.pow_pos (by omega)
  · unfold stepQ
    refine trm_le fun i hi => ?_
    rw [co_addL, co_scal, co_shf, co_ge (by omega), if_neg (by omega), co_ge (by simp; omega)]
    simp
  · rw [hco i, co_trm, co_trm, co_scal, co_shf]
theorem stepR_facts {c f : Int} {p k kj m : Nat} {M R : List Int} (hc : c.natAbs < 4294967296 ^ k) (hf : f.natAbs < 4294967296 ^ kj) (hM : PB M k) (hR : PB R kj) (hl : R.length ≤ m) (hp : p + (trm M).length ≤ m) : PB (stepR c p f M R) (k + kj + 1) ∧ (stepR c p f M R).length ≤ m ∧ ∀ i, co (stepR c p f M R) i = co (trm (scal c R)) i - co (trm (shf p (scal f M))) i := by
  have hco : ∀ i, co (stepR c p f M R) i = c * co R i - if i < p then 0 else f * co M (i - p) := fun i => by
    unfold stepR; rw [co_trm, co_subL, co_scal, co_shf]
    split
    · rfl
    · rw [co_scal]
  refine ⟨fun i => ?_, ?_, fun i => ?_⟩
  · rw [hco i]
    refine (bd2 (bdm hc (hR i)) ?_).2
    split
    · exact Nat.pow_pos (by omega)
    · rw [Int.mul_comm]; exact bdm (hM _) hf
  · show (trm (subL (scal c R) (shf p (scal f M)))).length ≤ m
    refine trm_le fun i hi => ?_
    rw [co_subL, co_scal, co_shf, co_ge (by omega), if_neg (by omega), co_scal, trm_above M (by omega)]
    simp
  · rw [hco i, co_trm, co_trm, co_scal, co_shf]
    split
    · rfl
    · rw [co_scal]
theorem stepQ_trm (c : Int) (p : Nat) (f : Int) (Q : List Int) : trm (stepQ c p f Q) = stepQ c p f Q := trm_trm _
theorem stepR_trm (c : Int) (p : Nat) (f : Int) (M R : List Int) : trm (stepR c p f M R) = stepR c p f M R := trm_trm _
theorem PolyAt.wider {W : World} {v : Value} {L : List Int} {k k' : Nat} (h : PolyAt W v L k) (hk : k ≤ k') (hk' : k' ≤ 10000000) : PolyAt W v L k' := by
  obtain ⟨A, c, g, s, h1, h2, h3⟩ := h
  refine ⟨A, c, g, s, h1, h2, fun i hi => ?_⟩
  obtain ⟨a, ha, c0, c1, hI⟩ := h3 i hi
  exact ⟨a, ha, c0, c1, hI.wider hk hk'⟩
theorem scal_facts {c : Int} {k kj m : Nat} {Q : List Int} (hc : c.natAbs < 4294967296 ^ k) (hQ : PB Q kj) (hl : Q.length ≤ m) : PB (trm (scal c Q)) (k + kj) ∧ (trm (scal c Q)).length ≤ m := by
  refine ⟨fun i => ?_, ?_⟩
  · rw [co_trm, co_scal]; exact bdm hc (hQ i)
  · have h1 := trm_len (scal c Q)
    have h2 : (scal c Q).length = Q.length := by simp [scal]
    omega
theorem co_single (f : Int) (j : Nat) : co [f] j = co [1] j * f := by
  cases j with
  | zero => show f = 1 * f; omega
  | succ j => rw [co_ge (by simp), co_ge (by simp)]; simp
theorem shf1_facts {f : Int} {p k kj : Nat} (hf : f.natAbs < 4294967296 ^ kj) : PB (trm (shf p [f])) (k + kj) ∧ (trm (shf p [f])).length ≤ p + 1 ∧ ∀ i, co (trm (shf p [f])) i = if i < p then 0 else co [1] (i - p) * f := by
  refine ⟨fun i => ?_, trm_le fun i hi => ?_, fun i => ?_⟩
  · rw [co_trm, co_shf]
    split
    · exact Nat.pow_pos (by omega)
    · rcases Nat.eq_zero_or_pos (i - p) with h | h
      · rw [h]; show f.natAbs < _; exact Nat.lt_of_lt_of_le hf (Nat.pow_le_pow_right (by omega) (by omega))
      · rw [co_ge (by simp; omega)]; exact Nat.pow_pos (by omega)
  · rw [co_shf, if_neg (by omega), co_ge (by simp; omega)]
  · rw [co_trm, co_shf, co_single]
theorem shfM_facts {f : Int} {p k kj : Nat} {M : List Int} (hf : f.natAbs < 4294967296 ^ kj) (hM : PB M k) : PB (trm (shf p (scal f M))) (k + kj) ∧ (trm (shf p (scal f M))).length ≤ p + (trm M).length ∧ ∀ i, co (trm (shf p (scal f M))) i = if i < p then 0 else co M (i - p) * f := by
  have hco : ∀ i, co (trm (shf p (scal f M))) i = if i < p then 0 else co M (i - p) * f := fun i => by
    rw [co_trm, co_shf]
    split
    · rfl
    · rw [co_scal, Int.mul_comm]
  refine ⟨fun i => ?_, trm_le fun i hi => ?_, hco⟩
  · rw [hco i]
    split
    · exact Nat.pow_pos (by omega)
    · exact bdm (hM _) hf
  · rw [← co_trm, hco i, if_neg (by omega), trm_above M (by omega)]; simp
set_option maxRecDepth 100000 in
set_option maxHeartbeats 6400000 in
theorem pdivide_any (v1 v2 : Value) (L M Q9 R9 : List Int) (n k : Nat) (c : Int) (w : World) (h1 : PolyAt w v1 L k) (h2 : PolyAt w v2 M k) (hL : L.length ≤ 100000) (hM : M.length ≤ 100000) (hl : (trm L).length ≤ 200) (hm : (trm M).length = n + 1) (hn : n < 200) (hk : k ≤ 1000) (hk1 : 1 ≤ k) (hc : co M n = c) (hrun : divR M n c ((trm L).length - n) [] (trm L) = (Q9, R9)) :
    Calls Tryz.prog 62 #[v1, v2] w fun e w' => ∃ q r, e = .returned (.tuple #[q, r]) ∧ PolyC w' w.heap.size q Q9 ∧ PolyC w' w.heap.size r R9 ∧ Below w.heap.size w w' := by
  have H1 := Lib.hid h1
  have H2 := Lib.hid h2
  have HP1 := Lib.hid h1.pb
  have HP2 := Lib.hid h2.pb
  have HM := Lib.hid hm
  have HLd := Lib.hid (show lead M = c by unfold lead; rw [if_neg (fun e => by rw [e] at hm; simp at hm), hm, ← hc]; rfl)
  have HCB := Lib.hid (show c.natAbs < 4294967296 ^ k by rw [← hc]; exact h2.pb n)
  have HDM := Lib.hid (show degZ M = (n : Int) by unfold degZ; rw [hm]; omega)
  obtain ⟨ll, hll⟩ : ∃ ll, (trm L).length = ll := ⟨_, rfl⟩
  have HDL := Lib.hid (show degZ L = (ll : Int) - 1 by unfold degZ; rw [hll])
  rw [hll] at hl hrun
  obtain ⟨st, hst⟩ : ∃ st, ll - n = st := ⟨_, rfl⟩
  rw [hst] at hrun
  have HRUN := Lib.hid hrun
  have hst1 : st ≤ 200 := by omega
  have HS := Lib.hid (show (ll : Int) - 1 - (n : Int) = (st : Int) - 1 ∨ (st = 0 ∧ (ll : Int) - 1 - (n : Int) < 0) by omega)
  have HLL := Lib.hid hll
  obtain ⟨A, ca, g, s, rfl, -⟩ := h1.cells
  obtain ⟨A2, c2, g2, s2, rfl, -⟩ := h2.cells
  clear hm hc hrun hll hst
  go_enter Tryz.func62, Tryz.ntmps62
  go_wp2_with fail
  refine (deg_any _ M k _ H2.out (by omega)).mono ?_
  rw [HDM.out]
  rintro e W1 ⟨rfl, b1⟩
  go_wp2_with fail
  refine (lead_any _ M k _ (H2.out.keep2 b1) (by omega) (by omega)).mono ?_
  rw [HLd.out]
  rintro e W2 ⟨gl, sl, rfl, IL, b2⟩
  have HIL := Lib.hid IL
  have B2 := below_more b1 (Nat.le_refl _) b2
  clear IL b1 b2
  go_wp2_with fail
  refine (iof_any 1 _ (by omega) (by omega)).mono ?_
  rintro e W3 ⟨rfl, b3⟩
  have B3 := below_more B2 (Nat.le_refl _) b3
  have HI1 := Lib.hid (show IsInt (.agg #[.bool (sg 1), .string (mg 1)]) 1 1 from isInt_mg (by decide) (by omega))
  clear B2 b3
  go_wp2_with fail
  have PO := (one_at W3 27 _ _ HI1.out).keep (below1 _ (.cells #[.bool gl, .string sl] 27))
  have XL := IVar.new (W3.alloc (.cells #[.bool (sg 1), .string (mg 1)] 27)) gl sl 27
  rw [World.size_alloc] at XL
  have V4 : DV w _ (W3.heap.size + 1) gl sl (.slice (some ⟨W3.heap.size, 0, none⟩) 1 1) := ⟨XL, PO, below_more B3 (Nat.le_refl _) (below2 W3 (.cells #[.bool (sg 1), .string (mg 1)] 27) (.cells #[.bool gl, .string sl] 27))⟩
  clear PO XL B3
  generalize (W3.alloc (.cells #[.bool (sg 1), .string (mg 1)] 27)).alloc (.cells #[.bool gl, .string sl] 27) = W4 at *
  generalize W3.heap.size = b3 at *
  have B4 := V4.2.2
  refine (pcan_any _ L (trm L) k _ (H1.out.keep2 B4) hL (by omega) rfl hk1).mono ?_
  rintro e W5 ⟨r5, rfl, P5, b5⟩
  have V5 := V4.keep b5
  have P5 := P5.wider B4.size
  have B5 := V5.2.2
  clear V4 B4 b5
  go_wp2_with fail
  refine (deg_any _ L k _ (H1.out.keep2 B5) (by omega)).mono ?_
  rw [HDL.out]
  rintro e W6 ⟨rfl, b6⟩
  have V6 := V5.keep b6
  have P6 := P5.keep b6
  clear V5 P5 B5 b6
  obtain ⟨pl, hpl, hpl1, hpl2, hw0⟩ : ∃ pl : Int, Hid (pl = (st : Int) - 1 ∨ (st = 0 ∧ pl < 0)) ∧ pl ≤ 300 ∧ -300 ≤ pl ∧ IntKind.i64.wrap ((ll : Int) - 1 - (n : Int)) = pl := ⟨(ll : Int) - 1 - (n : Int), Lib.hid HS.out, by omega, by omega, by rw [IntKind.wrap_i64]; omega⟩
  have HI0 := Lib.hid (show divR M n c st [] (trm L) = (Q9, R9) ∧ trm [] = [] ∧ trm (trm L) = trm L ∧ ([] : List Int).length ≤ 400 ∧ (trm L).length ≤ 400 ∧ PB [] (k + (st - st) * (k + 1)) ∧ PB (trm L) (k + (st - st) * (k + 1)) from ⟨HRUN.out, rfl, trm_trm L, by simp, by rw [HLL.out]; omega, fun i => by rw [co_nil]; exact Nat.pow_pos (by omega), fun i => by rw [co_trm, Nat.sub_self, Nat.zero_mul]; exact HP1.out i⟩)
  go_wp2_with fail
  go_loopg [9, 10, 11] st (fun q s9 s10 s11 wx => ∃ (v9 v10 : Value) (x : Int) (Q R : List Int), s9 = v9 ∧ s10 = v10 ∧ s11 = .int .i64 x ∧ Hid (x = (q : Int) - 1 ∨ (q = 0 ∧ x < 0)) ∧ q ≤ st ∧ PolyC wx w.heap.size v9 Q ∧ PolyC wx w.heap.size v10 R ∧ DV w wx (b3 + 1) gl sl (.slice (some ⟨b3, 0, none⟩) 1 1) ∧ Hid (divR M n c q Q R = (Q9, R9) ∧ trm Q = Q ∧ trm R = R ∧ Q.length ≤ 400 ∧ R.length ≤ 400 ∧ PB Q (k + (st - q) * (k + 1)) ∧ PB R (k + (st - q) * (k + 1))))
  case atStart => exact ⟨_, r5, pl, [], trm L, rfl, rfl, rfl, hpl, Nat.le_refl _, .inl ⟨rfl, rfl⟩, P6, V6, HI0⟩
  case round =>
    clear V6 P6 HI0 hw0 hpl hpl1 hpl2
    obtain ⟨v9, v10, x, Q, R, rfl, rfl, rfl, hx, hq, PQ, PR, V, HH⟩ := hrel
    rcases gk with _ | q
    · have hx0 : ¬ (0 : Int) ≤ x := by rcases hx.out with h | ⟨-, h⟩ <;> omega
      have HE := Lib.hid (show Q = Q9 ∧ R = R9 by
        have h := HH.out.1
        injection h with h1 h2
        exact ⟨h1, h2⟩)
      clear hx
      go_wp2
      exact bodyPost_ret (v := .tuple #[u9, u10]) (by simp [results, Tryz.results62, go_sem]) rfl ⟨_, _, rfl, by rw [← HE.out.1]; exact PQ, by rw [← HE.out.2]; exact PR, V.2.2⟩
    · obtain rfl : x = (q : Int) := by rcases hx.out with h | ⟨h, -⟩ <;> omega
      clear hx
      obtain ⟨kj, hkj1, hkj2, hkj3⟩ : ∃ kj, Hid (k + (st - (q + 1)) * (k + 1) = kj) ∧ kj ≤ 300000 ∧ k ≤ kj := ⟨_, Lib.hid rfl, by
        have h1 : (st - (q + 1)) * (k + 1) ≤ 200 * 1001 := Nat.mul_le_mul (by omega) (by omega)
        omega, Nat.le_add_right _ _⟩
      have HK2 := Lib.hid (show k + (st - q) * (k + 1) = k + kj + 1 by
        rw [show st - q = (st - (q + 1)) + 1 by omega, Nat.add_mul, ← hkj1.out]
        omega)
      obtain ⟨e1, he1, he2⟩ : ∃ e1, e1 ≤ q + n ∧ q + n ≤ e1 := ⟨q + n, Nat.le_refl _, Nat.le_refl _⟩
      have hw1 : IntKind.i64.wrap ((q : Int) + (n : Int)) = (e1 : Int) := by rw [IntKind.wrap_i64]; omega
      have hq0 : (0 : Int) ≤ (q : Int) := by omega
      obtain ⟨HH1, HH2, HH3, HH4, HH5, HH6, HH7⟩ := HH.out
      rw [hkj1.out] at HH6 HH7
      have HQ := Lib.hid (show trm Q = Q ∧ PB Q kj from ⟨HH2, HH6⟩)
      have HR := Lib.hid (show trm R = R ∧ PB R kj from ⟨HH3, HH7⟩)
      obtain ⟨f, Ef⟩ : ∃ f, Hid (co R e1 = f) := ⟨_, Lib.hid rfl⟩
      have HRUN2 := Lib.hid (show divR M n c q (stepQ c q f Q) (stepR c q f M R) = (Q9, R9) by
        rw [← Ef.out, show e1 = q + n by omega]; exact HH1)
      have HFB := Lib.hid (show f.natAbs < 4294967296 ^ kj by rw [← Ef.out]; exact HH7 e1)
      have SQ := Lib.hid (stepQ_facts HCB.out HFB.out HH6 HH4 (show q < 400 by omega))
      have SR := Lib.hid (stepR_facts HCB.out HFB.out HP2.out HH7 HH5 (show q + (trm M).length ≤ 400 by rw [HM.out]; omega))
      have HQl := HH4
      have HRl := HH5
      clear HH HH1 HH2 HH3 HH4 HH5 HH6 HH7
      go_wp2_with fail
      refine (coef_any _ R kj e1 _ (PR.at (by omega) HR.out.2) (by omega) (by omega) (by omega)).mono ?_
      rintro e W7 ⟨gf, sf, rfl, IF, b7⟩
      rw [Ef.out] at IF
      have HIF := Lib.hid IF
      have DD : DW w _ (b3 + 1) W7.heap.size gl gf sl sf (.slice (some ⟨b3, 0, none⟩) 1 1) u9 u10 Q R := ⟨(V.keep b7).keep (below1 W7 (.cells #[.bool gf, .string sf] 27)), IVar.new W7 gf sf 27, (PQ.keep b7).keep (below1 W7 (.cells #[.bool gf, .string sf] 27)), (PR.keep b7).keep (below1 W7 (.cells #[.bool gf, .string sf] 27))⟩
      clear IF V PQ PR
      go_upto_region 9 with fail
      generalize W7.alloc (.cells #[.bool gf, .string sf] 27) = W8 at *
      generalize W7.heap.size = b12 at *
      clear b7
      have HC1 := Lib.hid (scal_facts HCB.out HQ.out.2 HQl)
      have HC2 := Lib.hid (shf1_facts (p := q) (k := k) HFB.out)
      have HD1 := Lib.hid (scal_facts HCB.out HR.out.2 HRl)
      have HD2 := Lib.hid (shfM_facts (p := q) HFB.out HP2.out)
      go_cut [9] from 25 to 49 (fun s9 wx => ∃ v9, s9 = v9 ∧ DW w wx (b3 + 1) b12 gl gf sl sf (.slice (some ⟨b3, 0, none⟩) 1 1) v9 u10 (stepQ c q f Q) R)
      case first =>
        have DD := DD.keep (Below.refl _ _).drew
        obtain ⟨⟨⟨x1, x2⟩, -, -⟩, ⟨x3, x4⟩, -, -⟩ := id DD
        go_region_held3 (fun W => W.cell? ⟨b3 + 1, 0, none⟩ = some (.bool gl) ∧ W.cell? ⟨b3 + 1, 1, none⟩ = some (.string sl) ∧ W.cell? ⟨b12, 0, none⟩ = some (.bool gf) ∧ W.cell? ⟨b12, 1, none⟩ = some (.string sf)) (first | (with_reducible exact ⟨x1, x2, x3, x4⟩))
          (first
            | (go_at_call_of 96 (u9); (have PP := PolyC.at DD.2.2.1 (show kj ≤ 10000000 by omega) HQ.out.2); (with_reducible refine (mulp_zero _ _ Q (trm (scal c Q)) c kj _ PP (HIL.out.wider hkj3 (by omega)) (by omega) (by omega) (trm_trm _) (fun i => by rw [co_trm, co_scal])).mono ?_); rintro e X ⟨y1, rfl, Y1, bX⟩; have DD1 := DW.keep DD bX; have DD := DD1; obtain ⟨⟨⟨x1, x2⟩, -, -⟩, ⟨x3, x4⟩, -, -⟩ := id DD)
            | (go_at_call_of 96 (Value.slice (some ⟨b3, 0, none⟩) 1 1); (have PP := DD.1.2.1.wider (show 1 ≤ kj by omega) (by omega)); (with_reducible refine (mulp_any _ _ [1] (trm (shf q [f])) f q kj 0 _ PP HIF.out (by simp) (by omega) (by omega) (trm_trm _) HC2.out.2.2).mono ?_); rintro e X ⟨y2, rfl, Y2, bX⟩; have Y1 := Y1.keep bX; have DD1 := DW.keep DD bX; have DD := DD1; obtain ⟨⟨⟨x1, x2⟩, -, -⟩, ⟨x3, x4⟩, -, -⟩ := id DD)
            | (go_at_call 12; (have P1 := PolyC.at Y1 (show k + kj ≤ 10000000 by omega) HC1.out.1); (have P2 := PolyC.at Y2 (show k + kj ≤ 10000000 by omega) HC2.out.1); (have hsz := DD.1.2.2.size); (with_reducible refine (padd_any _ _ _ _ (stepQ c q f Q) (k + kj) (k + kj + 1) _ P1 P2 (by have := HC1.out.2; omega) (by have := HC2.out.2.1; omega) (by omega) (stepQ_trm _ _ _ _) SQ.out.2.2 SQ.out.1 (by omega)).mono ?_); rintro e X ⟨y3, rfl, Y3, bX⟩; have Y3 := Y3.wider hsz; have DD1 := DW.keep DD bX; have DD := DD1; obtain ⟨⟨⟨x1, x2⟩, -, -⟩, ⟨x3, x4⟩, -, -⟩ := id DD))
        all_goals go_wp2_with fail
        all_goals go_meet
        all_goals exact ⟨_, rfl, DD.1, DD.2.1, Y3, DD.2.2.2⟩
      case rest =>
        clear DD
        obtain ⟨v9, rfl, DD⟩ := hcut
        go_upto_region 10 with fail
        have DD := DD.keep (Below.refl _ _).drew
        obtain ⟨⟨⟨x1, x2⟩, -, -⟩, ⟨x3, x4⟩, -, -⟩ := id DD
        go_region_held3 (fun W => W.cell? ⟨b3 + 1, 0, none⟩ = some (.bool gl) ∧ W.cell? ⟨b3 + 1, 1, none⟩ = some (.string sl) ∧ W.cell? ⟨b12, 0, none⟩ = some (.bool gf) ∧ W.cell? ⟨b12, 1, none⟩ = some (.string sf)) (first | (with_reducible exact ⟨x1, x2, x3, x4⟩))
          (first
            | (go_at_call_of 96 (u10); (have PP := PolyC.at DD.2.2.2 (show kj ≤ 10000000 by omega) HR.out.2); (with_reducible refine (mulp_zero _ _ R (trm (scal c R)) c kj _ PP (HIL.out.wider hkj3 (by omega)) (by omega) (by omega) (trm_trm _) (fun i => by rw [co_trm, co_scal])).mono ?_); rintro e X ⟨y1, rfl, Y1, bX⟩; have DD1 := DW.keep DD bX; have DD := DD1; obtain ⟨⟨⟨x1, x2⟩, -, -⟩, ⟨x3, x4⟩, -, -⟩ := id DD)
            | (go_at_call_of 96 (Value.slice A2 M.length c2); (have BB := DD.1.2.2); (have PP := (H2.out.keep2 BB).wider hkj3 (by omega)); (with_reducible refine (mulp_any _ _ M (trm (shf q (scal f M))) f q kj 0 _ PP HIF.out (by omega) (by omega) (by omega) (trm_trm _) HD2.out.2.2).mono ?_); rintro e X ⟨y2, rfl, Y2, bX⟩; have Y1 := Y1.keep bX; have DD1 := DW.keep DD bX; have DD := DD1; obtain ⟨⟨⟨x1, x2⟩, -, -⟩, ⟨x3, x4⟩, -, -⟩ := id DD)
            | (go_at_call 14; (have P1 := PolyC.at Y1 (show k + kj ≤ 10000000 by omega) HD1.out.1); (have P2 := PolyC.at Y2 (show k + kj ≤ 10000000 by omega) HD2.out.1); (have hsz := DD.1.2.2.size); (with_reducible refine (psub_any _ _ _ _ (stepR c q f M R) (k + kj) (k + kj + 1) _ P1 P2 (by have := HD1.out.2; omega) (by have := HD2.out.2.1; have := HM.out; omega) (by omega) (stepR_trm _ _ _ _ _) SR.out.2.2 SR.out.1 (by omega)).mono ?_); rintro e X ⟨y3, rfl, Y3, bX⟩; have Y3 := Y3.wider hsz; have DD1 := DW.keep DD bX; have DD := DD1; obtain ⟨⟨⟨x1, x2⟩, -, -⟩, ⟨x3, x4⟩, -, -⟩ := id DD))
        all_goals have DD2 : DW w _ (b3 + 1) b12 gl gf sl sf (.slice (some ⟨b3, 0, none⟩) 1 1) _ _ (stepQ c q f Q) (stepR c q f M R) := ⟨DD.1, DD.2.1, DD.2.2.1, Y3⟩
        all_goals clear DD DD1 x1 x2 x3 x4 Y1 Y2 Y3
        all_goals go_wp2_with fail
        all_goals go_roundg q
        case measure => omega
        case rel => exact ⟨_, _, (q : Int) - 1, _, _, rfl, rfl, by go_num, Lib.hid (.inl rfl), by omega, DD2.2.2.1, DD2.2.2.2, DD2.1, Lib.hid ⟨HRUN2.out, stepQ_trm _ _ _ _, stepR_trm _ _ _ _ _, SQ.out.2.1, SR.out.2.1, by rw [HK2.out]; exact SQ.out.1, by rw [HK2.out]; exact SR.out.1⟩⟩
end Go.Proofs.YtgcogpfmhmmgdaaGreatDoor
