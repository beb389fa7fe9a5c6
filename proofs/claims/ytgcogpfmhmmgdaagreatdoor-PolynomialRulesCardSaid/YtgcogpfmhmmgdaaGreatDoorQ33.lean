/- Products of polynomials term by term: the sums that two ranges over terms make. No condition. What polynomial.Mul returns of polynomials other than 0 whose product is not too large. Condition: at most 10^5 coefficients, of at most 10^6 digits to the base 2^32. What polynomial.Mul returns where a factor is 0, and where the product is too large. Condition: at most 10^5 coefficients, of at most 10^6 digits to the base 2^32. -/
import Derived.Test.YtgcogpfmhmmgdaaGreatDoorQ31
import Derived.Test.YtgcogpfmhmmgdaaGreatDoorQ32

namespace Go.Proofs.YtgcogpfmhmmgdaaGreatDoor
set_option linter.unusedVariables false

/-- A product of two terms is added. -/
def stp (M : List Int) (x : Nat) (z : Int) (f : Nat → Int) (y : Tm M) : Nat → Int := fun i => if i = x + y.1 then f i + z * co M y.1 else f i
/-- One term of the first factor. -/
def accY (M : List Int) (x : Nat) (z : Int) (f : Nat → Int) (pre : List (Tm M)) : Nat → Int := pre.foldl (stp M x z) f
/-- Some terms of the first factor. -/
def accX (L M : List Int) (pre : List (Tm L)) : Nat → Int := pre.foldl (fun f x => accY M x.1 (co L x.1) f (tmx M M.length)) (fun _ => 0)
theorem accY_nil (M : List Int) (x : Nat) (z : Int) (f : Nat → Int) : accY M x z f [] = f := rfl
theorem accY_snoc (M : List Int) (x : Nat) (z : Int) (f : Nat → Int) (pre : List (Tm M)) (y : Tm M) : accY M x z f (pre ++ [y]) = stp M x z (accY M x z f pre) y := by
  unfold accY
  rw [List.foldl_append]; rfl
theorem accX_nil (L M : List Int) : accX L M [] = fun _ => 0 := rfl
theorem accX_snoc (L M : List Int) (pre : List (Tm L)) (x : Tm L) : accX L M (pre ++ [x]) = accY M x.1 (co L x.1) (accX L M pre) (tmx M M.length) := by
  unfold accX
  rw [List.foldl_append]; rfl
theorem accY_tmx (M : List Int) (x : Nat) (z : Int) (q : Nat) : ∀ (f : Nat → Int) (i : Nat), accY M x z f (tmx M q) i = f i + if x ≤ i ∧ i - x < q then z * co M (i - x) else 0 := by
  induction q with
  | zero => intro f i; rw [if_neg (by omega)]; show f i = _; omega
  | succ q ih =>
    intro f i
    unfold tmx
    by_cases h : co M q = 0
    · rw [dif_pos h, ih]
      by_cases h1 : x ≤ i ∧ i - x < q
      · rw [if_pos h1, if_pos (by omega)]
      · rw [if_neg h1]
        by_cases h2 : x ≤ i ∧ i - x < q + 1
        · rw [if_pos h2, show i - x = q by omega, h]; simp
        · rw [if_neg h2]
    · rw [dif_neg h]
      show accY M x z (stp M x z f ⟨q, h⟩) (tmx M q) i = _
      rw [ih]
      unfold stp
      show (if i = x + q then f i + z * co M q else f i) + _ = _
      by_cases h1 : i = x + q
      · subst h1
        rw [if_pos rfl, if_neg (by omega), if_pos (by omega), show x + q - x = q by omega]; omega
      · rw [if_neg h1]
        by_cases h2 : x ≤ i ∧ i - x < q
        · rw [if_pos h2, if_pos (by omega)]
        · rw [if_neg h2, if_neg (by omega)]
theorem accY_full (M : List Int) (x : Nat) (z : Int) (f : Nat → Int) (i : Nat) : accY M x z f (tmx M M.length) i = f i + if x ≤ i then z * co M (i - x) else 0 := by
  rw [accY_tmx]
  by_cases h : x ≤ i
  · rw [if_pos h]
    by_cases h1 : i - x < M.length
    · rw [if_pos ⟨h, h1⟩]
    · rw [if_neg (by omega), co_ge (by omega), Int.mul_zero]
  · rw [if_neg h, if_neg (by omega)]
/-- What the terms below q make. -/
def cvl (L M : List Int) : Nat → Nat → Int
  | 0, _ => 0
  | q + 1, i => cvl L M q i + if q ≤ i then co L q * co M (i - q) else 0
theorem accX_tmx (L M : List Int) (q : Nat) : ∀ (f : Nat → Int) (i : Nat), (tmx L q).foldl (fun f x => accY M x.1 (co L x.1) f (tmx M M.length)) f i = f i + cvl L M q i := by
  induction q with
  | zero => intro f i; show f i = f i + 0; omega
  | succ q ih =>
    intro f i
    rw [show tmx L (q + 1) = if h : co L q = 0 then tmx L q else ⟨q, h⟩ :: tmx L q from rfl]
    by_cases h : co L q = 0
    · rw [dif_pos h, ih]
      show _ = f i + (cvl L M q i + if q ≤ i then co L q * co M (i - q) else 0)
      rw [h]
      split <;> simp
    · rw [dif_neg h]
      show (tmx L q).foldl _ (accY M q (co L q) f (tmx M M.length)) i = _
      rw [ih, accY_full]
      show _ = f i + (cvl L M q i + _)
      omega
/-- What the terms from n on make. -/
theorem cvl_drop (L M : List Int) (i : Nat) : ∀ n, n ≤ L.length → cvl L M n i + (if n ≤ i then mulL (L.drop n) (co M) (i - n) else 0) = mulL L (co M) i := by
  intro n
  induction n with
  | zero => intro _; show 0 + _ = _; rw [if_pos (Nat.zero_le _)]; simp
  | succ n ih =>
    intro hn
    rw [← ih (by omega)]
    show cvl L M n i + _ + _ = _
    by_cases h : n ≤ i
    · rw [if_pos h, if_pos h, mulL_drop L (co M) n (by omega) (i - n)]
      by_cases h2 : n + 1 ≤ i
      · rw [if_pos h2, show i - n = (i - (n + 1)) + 1 by omega]
        show _ = cvl L M n i + (_ + mulL (L.drop (n + 1)) (co M) (i - (n + 1)))
        omega
      · rw [if_neg h2, show i - n = 0 by omega]
        show _ = cvl L M n i + (_ + 0)
        omega
    · rw [if_neg h, if_neg h, if_neg (by omega)]
      omega
theorem accX_full (L M : List Int) (i : Nat) : accX L M (tmx L L.length) i = mulL L (co M) i := by
  unfold accX
  rw [accX_tmx, ← cvl_drop L M i L.length (Nat.le_refl _)]
  rw [List.drop_length]
  simp [mulL]
/-- Bounds of the sums on the way. -/
theorem accY_bd (M : List Int) (x : Nat) (z : Int) (f : Nat → Int) {F B : Nat} (hf : ∀ i, (f i).natAbs ≤ F) (hB : ∀ j, (z * co M j).natAbs ≤ B) (pre : List (Tm M)) : ∀ i, (accY M x z f pre i).natAbs ≤ F + pre.length * B := by
  suffices h : ∀ (pre : List (Tm M)) (f : Nat → Int) (F : Nat), (∀ i, (f i).natAbs ≤ F) → ∀ i, (accY M x z f pre i).natAbs ≤ F + pre.length * B from h pre f F hf
  intro pre
  induction pre with
  | nil => intro f F hf i; have := hf i; show (f i).natAbs ≤ _; simpa using this
  | cons y pre ih =>
    intro f F hf i
    have h1 := ih (stp M x z f y) (F + B) (fun j => by
      unfold stp
      have h2 := hf j
      have h3 := hB y.1
      split
      · have := Int.natAbs_add_le (f j) (z * co M y.1); omega
      · omega) i
    rw [List.length_cons, Nat.add_mul]
    show (accY M x z (stp M x z f y) pre i).natAbs ≤ _
    omega
theorem accX_bd (L M : List Int) {B : Nat} (hB : ∀ i j, (co L i * co M j).natAbs ≤ B) (pre : List (Tm L)) : ∀ i, (accX L M pre i).natAbs ≤ pre.length * (M.length * B) := by
  suffices h : ∀ (pre : List (Tm L)) (f : Nat → Int) (F : Nat), (∀ i, (f i).natAbs ≤ F) → ∀ i, (pre.foldl (fun f x => accY M x.1 (co L x.1) f (tmx M M.length)) f i).natAbs ≤ F + pre.length * (M.length * B) by
    intro i
    have := h pre (fun _ => 0) 0 (fun i => by simp) i
    unfold accX
    omega
  intro pre
  induction pre with
  | nil => intro f F hf i; have := hf i; show (f i).natAbs ≤ _; simpa using this
  | cons x pre ih =>
    intro f F hf i
    have h1 := ih (accY M x.1 (co L x.1) f (tmx M M.length)) (F + M.length * B) (fun j => by
      have h2 := accY_bd M x.1 (co L x.1) f hf (hB x.1) (tmx M M.length) j
      have h3 := Nat.mul_le_mul_right B (tmx_len M M.length)
      omega) i
    rw [List.length_cons, Nat.add_mul]
    show (pre.foldl _ (accY M x.1 (co L x.1) f (tmx M M.length)) i).natAbs ≤ _
    omega
end Go.Proofs.YtgcogpfmhmmgdaaGreatDoor

namespace Go.Proofs.YtgcogpfmhmmgdaaGreatDoor
open Go.RowKit Go.Shelf
attribute [local go_sem] Oper.semAt_some
set_option linter.unusedSimpArgs false
set_option linter.unusedVariables false

/-- The second factor's variable. -/
def QB (w W : World) (v : Value) : Prop := CVar W w.heap.size v ∧ Below w.heap.size w W
theorem QB.keep {w W W1 : World} {v : Value} (h : QB w W v) (hb : Below W.heap.size W W1) : QB w W1 v := ⟨h.1.keep hb, below_more h.2 (Nat.le_refl _) hb⟩
/-- The list's variable, too. -/
def QT (w W : World) (v : Value) (bl : Nat) (u : Value) : Prop := QB w W v ∧ CVar W bl u ∧ w.heap.size < bl
theorem QT.keep {w W W1 : World} {v u : Value} {bl : Nat} (h : QT w W v bl u) (hb : Below W.heap.size W W1) : QT w W1 v bl u := ⟨h.1.keep hb, h.2.1.keep hb, h.2.2⟩
theorem QT.far {w W : World} {v u : Value} {bl : Nat} (h : QT w W v bl u) {a : Addr} (ha : w.heap.size < a.block) (hb : bl ≠ a.block) (x : Value) : QT w (W.setCell a x) v bl u := ⟨⟨h.1.1.far (by omega) x, h.1.2.setCell (by omega) x⟩, h.2.1.far hb x, h.2.2⟩
theorem QT.kept {w W W1 : World} {v u : Value} {bl : Nat} {row : Option Nat} (h : QT w W v bl u) (hg : W.grownBy W1 row) (hr : ∀ r, row = some r → w.heap.size ≤ r ∧ ∃ o : Obj, W.heap[r]? = some o ∧ o.isCells = false) : QT w W1 v bl u :=
  ⟨⟨h.1.1.kept hg (fun r e => (hr r e).2), h.1.2.grown hg h.1.2.size (fun r e => (hr r e).1)⟩, h.2.1.kept hg (fun r e => (hr r e).2), h.2.2⟩
theorem Kt.kept {n₀ Bs : Nat} {W X Y : World} {row : Option Nat} (h : Kt n₀ Bs W X) (h0 : n₀ ≤ W.heap.size) (hB : Bs < W.heap.size) (hg : X.grownBy Y row) (hr : ∀ r, row = some r → W.heap.size ≤ r) : Kt n₀ Bs W Y :=
  ⟨h.1.grown hg (Nat.le_trans h0 h.1.size) (fun r e => Nat.le_trans h0 (hr r e)), (hg.block Bs (Nat.lt_of_lt_of_le hB h.1.size) (fun e => by have := hr Bs e.symm; omega)).trans h.2⟩
/-- What the region reads. -/
def RS (bl b0 N B8 B9 B11 e1 x : Nat) (gx gy gf : Bool) (sx sy sf : ByteArray) (W : World) : Prop :=
  W.cell? ⟨bl, 0, none⟩ = some (.slice (some ⟨b0, 0, none⟩) N N) ∧ W.cell? ⟨B8, 0, none⟩ = some (.int .i64 (x : Int)) ∧ W.cell? ⟨B9, 0, none⟩ = some (.bool gx) ∧ W.cell? ⟨B9, 1, none⟩ = some (.string sx) ∧ W.cell? ⟨B11, 0, none⟩ = some (.bool gy) ∧ W.cell? ⟨B11, 1, none⟩ = some (.string sy) ∧ W.cell? ⟨b0, e1 * 2, none⟩ = some (.bool gf) ∧ W.cell? ⟨b0, e1 * 2 + 1, none⟩ = some (.string sf)
theorem RS.keep {bl b0 N B8 B9 B11 e1 x : Nat} {gx gy gf : Bool} {sx sy sf : ByteArray} {W W1 : World} (h : RS bl b0 N B8 B9 B11 e1 x gx gy gf sx sy sf W) (hb : Below W.heap.size W W1) : RS bl b0 N B8 B9 B11 e1 x gx gy gf sx sy sf W1 :=
  ⟨cell_keep h.1 hb, cell_keep h.2.1 hb, cell_keep h.2.2.1 hb, cell_keep h.2.2.2.1 hb, cell_keep h.2.2.2.2.1 hb, cell_keep h.2.2.2.2.2.1 hb, cell_keep h.2.2.2.2.2.2.1 hb, cell_keep h.2.2.2.2.2.2.2 hb⟩
theorem tm_bd {L M : List Int} {k : Nat} (h1 : PB L k) (h2 : PB M k) (i j : Nat) : (co L i * co M j).natAbs < 4294967296 ^ (2 * k) := by
  rw [Int.natAbs_mul, Nat.two_mul, Nat.pow_add]
  exact Nat.mul_lt_mul'' (h1 i) (h2 j)
theorem acc_bd {L M : List Int} {k : Nat} (h1 : PB L k) (h2 : PB M k) (hM : M.length ≤ 100000) (pre : List (Tm L)) (x : Tm L) (pre' : List (Tm M)) (hp : pre.length ≤ 100000) (hp' : pre'.length ≤ 100000) (i : Nat) : (accY M x.1 (co L x.1) (accX L M pre) pre' i).natAbs < 4294967296 ^ (2 * k + 2) := by
  have hB : ∀ i j, (co L i * co M j).natAbs ≤ 4294967296 ^ (2 * k) := fun i j => Nat.le_of_lt (tm_bd h1 h2 i j)
  have h3 := accY_bd M x.1 (co L x.1) (accX L M pre) (accX_bd L M hB pre) (hB x.1) pre' i
  have h4 : 0 < 4294967296 ^ (2 * k) := Nat.pow_pos (by omega)
  rw [show 4294967296 ^ (2 * k + 2) = 18446744073709551616 * 4294967296 ^ (2 * k) by rw [Nat.pow_add, Nat.mul_comm]]
  generalize 4294967296 ^ (2 * k) = B at *
  have h5 : pre.length * (M.length * B) ≤ 100000 * (100000 * B) := Nat.mul_le_mul hp (Nat.mul_le_mul_right B hM)
  have h6 : pre'.length * B ≤ 100000 * B := Nat.mul_le_mul_right B hp'
  omega
set_option maxRecDepth 100000 in
set_option maxHeartbeats 6400000 in
theorem pmul_pos (v1 v2 : Value) (L M C : List Int) (k : Nat) (w : World) (h1 : PolyAt w v1 L k) (h2 : PolyAt w v2 M k) (hL : L.length ≤ 100000) (hM : M.length ≤ 100000) (hk : k ≤ 1000000) (h0 : trm L ≠ []) (h00 : trm M ≠ []) (hd : (trm L).length + (trm M).length ≤ 66) (hC : C = trm (prodL L M)) :
    Calls Tryz.prog 22 #[v1, v2] w fun e w' => ∃ v, e = .returned (.tuple #[v, .int .i64 0]) ∧ PolyC w' w.heap.size v C ∧ Below w.heap.size w w' := by
  have H1 := Lib.hid h1
  have H2 := Lib.hid h2
  have hco : ∀ i, co C i = mulL L (co M) i := fun i => by rw [hC, co_trm, co_prodL]
  have hCl := trm_len_mul L M h0 h00
  rw [← hC] at hCl
  obtain ⟨n0, hn0⟩ : ∃ n0, (trm L).length = n0 + 1 := ⟨(trm L).length - 1, by have := List.length_pos_iff.2 h0; omega⟩
  obtain ⟨m0, hm0⟩ : ∃ m0, (trm M).length = m0 + 1 := ⟨(trm M).length - 1, by have := List.length_pos_iff.2 h00; omega⟩
  have hdL : degZ L = (n0 : Int) := by unfold degZ; rw [hn0]; omega
  have hdM : degZ M = (m0 : Int) := by unfold degZ; rw [hm0]; omega
  have iL : ¬ (n0 : Int) < 0 := by omega
  have iM : ¬ (m0 : Int) < 0 := by omega
  obtain ⟨D, hD⟩ : ∃ D, D = n0 + m0 := ⟨_, rfl⟩
  have hw : IntKind.i64.wrap ((n0 : Int) + (m0 : Int)) = (D : Int) := by rw [IntKind.wrap_i64]; omega
  have hD2 : ¬ (64 : Int) < (D : Int) := by omega
  have hD3 : D ≤ 64 := by omega
  obtain ⟨N, hNa, hNb⟩ : ∃ N, N ≤ D + 1 ∧ D + 1 ≤ N := ⟨D + 1, Nat.le_refl _, Nat.le_refl _⟩
  have HO := Lib.hid (show C.length = N ∧ ∀ i, co C i = mulL L (co M) i from ⟨by omega, hco⟩)
  have HT := Lib.hid (show (trm L).length + (trm M).length = D + 2 by omega)
  have HP1 := Lib.hid h1.pb
  have HP2 := Lib.hid h2.pb
  have HDL := Lib.hid hdL
  have HDM := Lib.hid hdM
  obtain ⟨A, c, g, s, rfl, hcells⟩ := h1.cells
  have HCL := Lib.hid hcells
  obtain ⟨A2, c2, g2, s2, rfl, hcells2⟩ := h2.cells
  have HCM := Lib.hid hcells2
  clear hco hC hCl hn0 hm0 hD hd hcells hcells2 h0 h00 hdL hdM
  have KB : QB w (w.alloc (.cells #[.slice A2 M.length c2] 22)) (.slice A2 M.length c2) := ⟨CVar.new _ _ _, below1 _ _⟩
  refine (callsIn_wide (n := 8)).1 ?_
  refine callsIn_of_wp_marks Tryz.func22 rfl trivial ?_ rfl
  simp only [Tryz.ntmps22, List.size_toArray, List.length_cons, List.length_nil, Nat.reduceAdd, Nat.reduceSub, Array.replicate_succ, Array.replicate_zero, List.push_toArray, List.append_toArray, List.nil_append, List.cons_append]
  gi_wp2_with (refine ⟨trivial, ?_⟩; first
    | (gi_at_call 10; (have BB := KB.2); (with_reducible refine (callsIn_wide.2 (deg_any _ L k _ (H1.out.keep2 BB) (by omega))).mono ?_); (rw [HDL.out]); rintro e W1 ⟨rfl, b1⟩; (have KB := KB.keep b1); (have q1 := KB.1); (unfold CVar at q1))
    | (gi_at_call 10; (have BB := KB.2); (with_reducible refine (callsIn_wide.2 (deg_any _ M k _ (H2.out.keep2 BB) (by omega))).mono ?_); (rw [HDM.out]); rintro e W2 ⟨rfl, b2⟩; (have KB := KB.keep b2); (clear q1); (have q1 := KB.1); (unfold CVar at q1)))
  refine wpIn_wide.2 ?_
  go_cut [6] from 20 to 24 (fun s6 wx => s6 = .int .i64 (D : Int) ∧ QB w wx (.slice A2 M.length c2))
  case first =>
    have KB := KB.keep (Below.refl _ _).drew
    clear q1
    have q1 := KB.1
    go_region_held3 (fun W => W.cell? ⟨w.heap.size, 0, none⟩ = some (.slice A2 M.length c2)) (first | (with_reducible exact q1) | exact KB.1)
      (first
        | (go_at_call_of 10 (Value.slice A L.length c); (have BB := KB.2); (with_reducible refine (deg_any _ L k _ (H1.out.keep2 BB) (by omega)).mono ?_); (rw [HDL.out]); rintro e X ⟨rfl, bX⟩; have KB1 := QB.keep KB bX; have KB := KB1; have q1 := KB.1)
        | (go_at_call_of 10 (Value.slice A2 M.length c2); (have BB := KB.2); (with_reducible refine (deg_any _ M k _ (H2.out.keep2 BB) (by omega)).mono ?_); (rw [HDM.out]); rintro e X ⟨rfl, bX⟩; have KB1 := QB.keep KB bX; have KB := KB1; have q1 := KB.1))
    all_goals go_wp2_with fail
    all_goals go_meet
    all_goals exact ⟨rfl, KB⟩
  case rest =>
    obtain ⟨rfl, KB'⟩ := hcut
    clear q1 KB
    have KB := KB'
    clear KB'
    gi_wp2_with (refine ⟨trivial, ?_⟩; first
      | (gi_at_call 41; (with_reducible refine (callsIn_wide.2 (blank_row _ N _ (by omega) (by omega) (by omega))).mono ?_); rintro e W5 ⟨A0, rfl, R, b5⟩)
      | (gi_at_call 46; (with_reducible refine (callsIn_wide.2 (terms_any A L.length c _)).mono ?_); rintro e W6 ⟨rfl, rfl⟩))
    have K5 := KB.keep b5
    have hbw : w.heap.size < W5.heap.size := K5.1.lt
    have K4 : QT w _ (.slice A2 M.length c2) W5.heap.size (.slice A0 N N) := ⟨K5.keep (below2 W5 (.cells #[.slice A0 N N] 22) (.cells #[.slice A L.length c] 22)), (CVar.new W5 (.slice A0 N N) 22).keep (below1 _ (.cells #[.slice A L.length c] 22)), hbw⟩
    have hlt := KB.1.lt
    have R4 := (R.wider (show w.heap.size + 1 ≤ _ by omega)).keep (below2 W5 (.cells #[.slice A0 N N] 22) (.cells #[.slice A L.length c] 22))
    have T4 := CVar.new (W5.alloc (.cells #[.slice A0 N N] 22)) (.slice A L.length c) 22
    rw [World.size_alloc] at T4
    have HA := Lib.hid (show ∀ b, A0 = some ⟨b, 0, none⟩ → w.heap.size < b ∧ b < W5.heap.size from fun b hb => by have := R.lt b hb; omega)
    clear K5 KB R b5 hlt
    generalize (W5.alloc (.cells #[.slice A0 N N] 22)).alloc (.cells #[.slice A L.length c] 22) = W4 at *
    generalize W5.heap.size = bl at *
    have B4 := K4.1.2
    have C4 := HCL.out.keep B4
    have hT := T4.lt
    have HR0 := Lib.hid (show OwnRow W4 (w.heap.size + 1) A0 N (fun i => sg (accX L M [] i)) (fun i => mg (accX L M [] i)) from by
      refine R4.congr fun i _ => ⟨?_, ?_⟩
      · show false = sg 0; rw [sg_zero]
      · show _ = mg 0; rw [mg_zero])
    refine wpIn_rangeFunc_ownH rfl (by omega) (gf := 83) (lb := #[.pointer (some ⟨bl + 1, 0, none⟩)]) rfl trivial (enters_of Tryz.func83 (by kernel_rfl) rfl)
      (terms_stops _ (bl + 1) w.heap.size c k A L g s W4 (by omega) (by omega) T4 B4.size C4) (fun h h' => h.trans h') (Kt.turn B4.size hT) (Below.refl _ _) (fun _ => rfl)
      (fun pre W => QT w W (.slice A2 M.length c2) bl (.slice A0 N N) ∧ OwnRow W (w.heap.size + 1) A0 N (fun i => sg (accX L M pre i)) (fun i => mg (accX L M pre i)) ∧ CVar W (bl + 1) (.slice A L.length c))
      (fun _ _ _ => False)
      (fun pre X Y row hs hg hr => ⟨hs.1.kept hg (fun r e => ⟨Nat.le_trans B4.size (hr r e).1, (hr r e).2⟩), hs.2.1.kept hg (fun r e => (hr r e).2), hs.2.2.kept hg (fun r e => (hr r e).2)⟩)
      (fun _ _ _ _ _ hs _ _ => hs)
      ⟨K4, HR0.out, T4⟩
      (fun x a' W => ∃ B8 B9, bl + 1 < B8 ∧ bl + 1 < B9 ∧ CVar W B8 (.int .i64 (x.1 : Int)) ∧ IVar W B9 (g x.1) (s x.1) ∧ a' = { tmps := #[.slice A L.length c, .slice A2 M.length c2, undef, .pointer (some ⟨w.heap.size, 0, none⟩), .slice none 0 0, .int .i64 0, .int .i64 (D : Int), .pointer (some ⟨bl, 0, none⟩), .pointer (some ⟨B8, 0, none⟩), .pointer (some ⟨B9, 0, none⟩), undef, undef, .slice A L.length c, .int .i64 (n0 : Int), .bool (decide ((n0 : Int) < 0)), .bool (decide ((n0 : Int) < 0)), .slice A2 M.length c2, .int .i64 (m0 : Int), .bool (decide ((m0 : Int) < 0)), .bool (decide ((n0 : Int) < 0) || decide ((m0 : Int) < 0)), u20, u21, u22, u23, u24, .int .i64 (D : Int), .bool (decide ((64 : Int) < (D : Int))), .int .i64 (D : Int), .slice A0 N N, .slice A L.length c, .func (.func 83) #[] #[.pointer (some ⟨bl + 1, 0, none⟩)], .int .i64 (x.1 : Int), .agg #[.bool (g x.1), .string (s x.1)], undef, undef, undef, undef, undef, undef, undef, undef, undef, undef, undef, undef, undef, undef, undef, undef, undef, undef, undef, undef], defers := [] })
      (fun x a' _ X Y row hs hg hr => by
        obtain ⟨B8, B9, h1, h2, h3, h4, h5⟩ := hs
        exact ⟨B8, B9, h1, h2, h3.kept hg (fun r e => (hr r e).2), h4.kept hg (fun r e => (hr r e).2), h5⟩)
      ?assign ?body ?done ?stop
    case assign =>
      rintro l pre x W K ⟨i1, i2, i3⟩ hK
      have hKK := Lib.hid hK
      have hi3 := i3.lt
      have hX := IVar.new (W.alloc (.cells #[.int .i64 (x.1 : Int)] 3)) (g x.1) (s x.1) 27
      rw [World.size_alloc] at hX
      clear hK
      gi_wp2
      exact hKK.out _ _ (((KeepsOthers.alloc _ _).trans (KeepsOthers.alloc _ _)).from _) (Kt.of_below (below2 W _ _) i1.1.2.size i3.lt) ⟨i1.keep (below2 W _ _), i2.keep (below2 W _ _), i3.keep (below2 W _ _)⟩ ⟨W.heap.size, W.heap.size + 1, hi3, by omega, (CVar.new W _ _).keep (below1 _ _), hX, rfl⟩
    case body =>
      rintro l pre x a' W hl ⟨r, hr⟩ ⟨i1, i2, i3⟩ ⟨B8, B9, hB8, hB9, b8, b9, rfl⟩ hlt'
      have q1 := i1.1.1
      unfold CVar at q1
      gi_wp2_with (refine ⟨trivial, ?_⟩; gi_at_call 46; refine (CallsIn.inRound l (callsIn_wide.2 (terms_any A2 M.length c2 _))).mono ?_; rintro e W6 ⟨rfl, rfl⟩)
      have bN := below1 W (.cells #[.slice A2 M.length c2] 22)
      have TN := CVar.new W (.slice A2 M.length c2) 22
      have hr' : (W.alloc (.cells #[.slice A2 M.length c2] 22)).heap[l]? = some (.loop r) := (Below.heap_alloc W _ l (Array.getElem?_eq_some_iff.1 hr).1).trans hr
      have j1 := i1.keep bN
      have j2 := i2.keep bN
      have j3 := i3.keep bN
      have j8 := b8.keep bN
      have j9 := b9.keep bN
      have CN := HCM.out.keep j1.1.2
      have hsW := i1.1.2.size
      have hi3 := i3.lt
      have h8lt := b8.lt
      have h9lt := b9.lt
      have hKF : KeepsFrom W4.heap.size W (W.alloc (.cells #[.slice A2 M.length c2] 22)) := (KeepsOthers.alloc _ _).from _
      have hKt : Kt w.heap.size (bl + 1) W (W.alloc (.cells #[.slice A2 M.length c2] 22)) := Kt.of_below bN hsW hi3
      have hWN : W.heap.size ≤ (W.alloc (.cells #[.slice A2 M.length c2] 22)).heap.size := bN.size
      clear q1
      generalize W.alloc (.cells #[.slice A2 M.length c2] 22) = WN at *
      have hTN := TN.lt
      refine wpIn_rangeFunc_ownN (l₀ := l) (r₀ := r) rfl hr' (by omega) (gf := 83) (lb := #[.pointer (some ⟨W.heap.size, 0, none⟩)]) rfl trivial (enters_of Tryz.func83 (by kernel_rfl) rfl)
        ((terms_stops _ W.heap.size w.heap.size c2 k A2 M g2 s2 WN (by omega) (by omega) TN j1.1.2.size CN).inRound l) (fun h h' => h.trans h') (Kt.turn j1.1.2.size hTN) (Below.refl _ _) (fun _ => rfl)
        (fun pre' W' => QT w W' (.slice A2 M.length c2) bl (.slice A0 N N) ∧ OwnRow W' (w.heap.size + 1) A0 N (fun i => sg (accY M x.1 (co L x.1) (accX L M pre) pre' i)) (fun i => mg (accY M x.1 (co L x.1) (accX L M pre) pre' i)) ∧ CVar W' (bl + 1) (.slice A L.length c) ∧ CVar W' B8 (.int .i64 (x.1 : Int)) ∧ IVar W' B9 (g x.1) (s x.1) ∧ CVar W' W.heap.size (.slice A2 M.length c2) ∧ KeepsFrom W4.heap.size W W' ∧ Kt w.heap.size (bl + 1) W W')
        (fun _ _ _ => False)
        (fun pre' X Y row hs hg hr => ⟨hs.1.kept hg (fun r e => ⟨by have := (hr r e).1; omega, (hr r e).2⟩), hs.2.1.kept hg (fun r e => (hr r e).2), hs.2.2.1.kept hg (fun r e => (hr r e).2), hs.2.2.2.1.kept hg (fun r e => (hr r e).2), hs.2.2.2.2.1.kept hg (fun r e => (hr r e).2), hs.2.2.2.2.2.1.kept hg (fun r e => (hr r e).2), ownFrom_keepsFrom (β := Unit) hWN () X Y row hs.2.2.2.2.2.2.1 hg hr, hs.2.2.2.2.2.2.2.kept hsW hi3 hg (fun r e => Nat.le_trans hWN (hr r e).1)⟩)
        (fun _ _ _ _ _ hs _ _ => hs)
        ⟨j1, j2, j3, j8, j9, TN, hKF, hKt⟩
        (fun y a'' W' => ∃ B11, W.heap.size < B11 ∧ IVar W' B11 (g2 y.1) (s2 y.1) ∧ a'' = { tmps := #[.slice A L.length c, .slice A2 M.length c2, undef, .pointer (some ⟨w.heap.size, 0, none⟩), .slice none 0 0, .int .i64 0, .int .i64 (D : Int), .pointer (some ⟨bl, 0, none⟩), .pointer (some ⟨B8, 0, none⟩), .pointer (some ⟨B9, 0, none⟩), .int .i64 (y.1 : Int), .pointer (some ⟨B11, 0, none⟩), .slice A L.length c, .int .i64 (n0 : Int), .bool (decide ((n0 : Int) < 0)), .bool (decide ((n0 : Int) < 0)), .slice A2 M.length c2, .int .i64 (m0 : Int), .bool (decide ((m0 : Int) < 0)), .bool (decide ((n0 : Int) < 0) || decide ((m0 : Int) < 0)), u20, u21, u22, u23, u24, .int .i64 (D : Int), .bool (decide ((64 : Int) < (D : Int))), .int .i64 (D : Int), .slice A0 N N, .slice A L.length c, .func (.func 83) #[] #[.pointer (some ⟨bl + 1, 0, none⟩)], .int .i64 (x.1 : Int), .agg #[.bool (g x.1), .string (s x.1)], .slice A2 M.length c2, .func (.func 83) #[] #[.pointer (some ⟨W.heap.size, 0, none⟩)], .int .i64 (y.1 : Int), .agg #[.bool (g2 y.1), .string (s2 y.1)], undef, undef, undef, undef, undef, undef, undef, undef, undef, undef, undef, undef, undef, undef, undef, undef], defers := [] })
        (fun y a'' _ X Y row hs hg hr => by
          obtain ⟨B11, h1, h2, h3⟩ := hs
          exact ⟨B11, h1, h2.kept hg (fun r e => (hr r e).2), h3⟩)
        ?assign2 ?body2 ?done2 ?stop2
      case assign2 =>
        rintro l2 pre' y W' K ⟨k1, k2, k3, k8, k9, kN, kF, kT⟩ hK
        have hKK := Lib.hid hK
        clear hK
        have hk := kN.lt
        gi_wp2
        exact hKK.out _ _ ((KeepsOthers.alloc _ _).from _) (Kt.of_below (below1 W' _) k1.1.2.size kN.lt) ⟨k1.keep (below1 W' _), k2.keep (below1 W' _), k3.keep (below1 W' _), k8.keep (below1 W' _), k9.keep (below1 W' _), kN.keep (below1 W' _), kF.trans ((KeepsOthers.alloc _ _).from _), kT.trans (Kt.of_below (below1 W' _) k1.1.2.size k3.lt)⟩ ⟨W'.heap.size, hk, IVar.new W' _ _ _, rfl⟩
      case body2 =>
        rintro l2 pre' y a'' W' _ _ ⟨k1, k2, k3, k8, k9, kN, kF, kT⟩ ⟨B11, hB11, k11, rfl⟩ hlt2
        have hxL : x.1 < L.length := by have := trm_len L; have := x.lt; omega
        have hyM : y.1 < M.length := by have := trm_len M; have := y.lt; omega
        have hxn := x.lt
        have hyn := y.lt
        obtain ⟨e1, hea, heb⟩ : ∃ e1, e1 ≤ x.1 + y.1 ∧ x.1 + y.1 ≤ e1 := ⟨x.1 + y.1, Nat.le_refl _, Nat.le_refl _⟩
        have he1 : e1 < N := by have := HT.out; omega
        rcases k2 with ⟨h0, -⟩ | ⟨b0, rfl, hb0, P⟩
        · omega
        obtain ⟨hb1, hb2⟩ := HA.out b0 rfl
        obtain ⟨-, -, -, -, -, hIx⟩ := HCL.out x.1 hxL
        obtain ⟨-, -, -, -, -, hIy⟩ := HCM.out y.1 hyM
        have HIx := Lib.hid hIx
        have HIy := Lib.hid hIy
        obtain ⟨F, EF⟩ : ∃ F : Nat → Int, Hid (accY M x.1 (co L x.1) (accX L M pre) pre' = F) := ⟨_, Lib.hid rfl⟩
        have HF := Lib.hid (isInt_mg (z := F e1) (k := 2 * k + 2) (by rw [← EF.out]; exact acc_bd HP1.out HP2.out hM pre x pre' (by omega) (by omega) e1) (by omega))
        obtain ⟨zy, EY⟩ : ∃ z : Int, Hid (co L x.1 * co M y.1 = z) := ⟨_, Lib.hid rfl⟩
        have HY := Lib.hid (isInt_mg (z := zy) (k := 2 * k) (by rw [← EY.out]; exact tm_bd HP1.out HP2.out x.1 y.1) (by omega))
        obtain ⟨zz, EZ⟩ : ∃ z : Int, Hid (F e1 + zy = z) := ⟨_, Lib.hid rfl⟩
        rw [EF.out] at P
        have hxi : (e1 : Int) < (N : Int) := by omega
        have hx0 : (0 : Int) ≤ (e1 : Int) := by omega
        have hxw : IntKind.i64.wrap ((x.1 : Int) + (y.1 : Int)) = (e1 : Int) := by rw [IntKind.wrap_i64]; omega
        obtain ⟨p1, p2, p3, p4⟩ := P.cell he1
        have hR00 : RS bl b0 N B8 B9 B11 e1 x.1 (g x.1) (g2 y.1) (sg (F e1)) (s x.1) (s2 y.1) (mg (F e1)) W' := ⟨k1.2.1, k8, k9.1, k9.2, k11.1, k11.2, p1, p2⟩
        have hR : RS bl b0 N B8 B9 B11 e1 x.1 (g x.1) (g2 y.1) (sg (F e1)) (s x.1) (s2 y.1) (mg (F e1)) W'.drew := hR00.keep (Below.refl _ _).drew
        clear hIx hIy p1 p2 p3 p4
        gi_wp2
        refine regionT_in_round (T := T2 15 15 (RS bl b0 N B8 B9 B11 e1 x.1 (g x.1) (g2 y.1) (sg (F e1)) (s x.1) (s2 y.1) (mg (F e1))) (RS bl b0 N B8 B9 B11 e1 x.1 (g x.1) (g2 y.1) (sg (F e1)) (s x.1) (s2 y.1) (mg (F e1)))) (by kernel_rfl) (by kernel_rfl) (by rintro ⟨_, _, h⟩; exact h) ?_
        refine take1 (i := 0) (v := ?_) rfl (by kernel_rfl) (by kernel_rfl) (by kernel_rfl) (by kernel_rfl) (by kernel_rfl) (by decide) (by decide) (fun _ _ _ h => h) (Or.inl ⟨by rfl, ?_⟩) hR hR ?_
        rotate_left
        · intro w hSw
          (try unfold RS at hSw)
          go_simp
          all_goals with_reducible rfl
        (try simp only [Act.put, List.setIfInBounds_toArray, List.set_cons_zero, List.set_cons_succ])
        refine take1 (i := 1) (v := ?_) rfl (by kernel_rfl) (by kernel_rfl) (by kernel_rfl) (by kernel_rfl) (by kernel_rfl) (by decide) (by decide) (fun _ _ _ h => h) (Or.inl ⟨by rfl, ?_⟩) hR hR ?_
        rotate_left
        · intro w hSw
          (try unfold RS at hSw)
          go_simp
          all_goals with_reducible rfl
        (try simp only [Act.put, List.setIfInBounds_toArray, List.set_cons_zero, List.set_cons_succ])
        refine take1 (i := 2) (v := ?_) rfl (by kernel_rfl) (by kernel_rfl) (by kernel_rfl) (by kernel_rfl) (by kernel_rfl) (by decide) (by decide) (fun _ _ _ h => h) (Or.inl ⟨by rfl, ?_⟩) hR hR ?_
        rotate_left
        · intro w hSw
          (try unfold RS at hSw)
          go_simp
          all_goals with_reducible rfl
        (try simp only [Act.put, List.setIfInBounds_toArray, List.set_cons_zero, List.set_cons_succ])
        refine take1 (i := 3) (v := ?_) rfl (by kernel_rfl) (by kernel_rfl) (by kernel_rfl) (by kernel_rfl) (by kernel_rfl) (by decide) (by decide) (fun _ _ _ h => h) (Or.inl ⟨by rfl, ?_⟩) hR hR ?_
        rotate_left
        · intro w hSw
          (try unfold RS at hSw)
          go_simp
          all_goals with_reducible rfl
        (try simp only [Act.put, List.setIfInBounds_toArray, List.set_cons_zero, List.set_cons_succ])
        refine take1 (i := 4) (v := ?_) rfl (by kernel_rfl) (by kernel_rfl) (by kernel_rfl) (by kernel_rfl) (by kernel_rfl) (by decide) (by decide) (fun _ _ _ h => h) (Or.inl ⟨by rfl, ?_⟩) hR hR ?_
        rotate_left
        · intro w hSw
          (try unfold RS at hSw)
          go_simp
          all_goals with_reducible rfl
        (try simp only [Act.put, List.setIfInBounds_toArray, List.set_cons_zero, List.set_cons_succ])
        refine take1 (i := 5) (v := ?_) rfl (by kernel_rfl) (by kernel_rfl) (by kernel_rfl) (by kernel_rfl) (by kernel_rfl) (by decide) (by decide) (fun _ _ _ h => h) (Or.inl ⟨by rfl, ?_⟩) hR hR ?_
        rotate_left
        · intro w hSw
          (try unfold RS at hSw)
          go_simp
          all_goals with_reducible rfl
        (try simp only [Act.put, List.setIfInBounds_toArray, List.set_cons_zero, List.set_cons_succ])
        refine take1 (i := 6) (v := ?_) rfl (by kernel_rfl) (by kernel_rfl) (by kernel_rfl) (by kernel_rfl) (by kernel_rfl) (by decide) (by decide) (fun _ _ _ h => h) (Or.inl ⟨by rfl, ?_⟩) hR hR ?_
        rotate_left
        · intro w hSw
          (try unfold RS at hSw)
          go_simp
          all_goals with_reducible rfl
        (try simp only [Act.put, List.setIfInBounds_toArray, List.set_cons_zero, List.set_cons_succ])
        refine take1 (i := 7) (v := ?_) rfl (by kernel_rfl) (by kernel_rfl) (by kernel_rfl) (by kernel_rfl) (by kernel_rfl) (by decide) (by decide) (fun _ _ _ h => h) (Or.inl ⟨by rfl, ?_⟩) hR hR ?_
        rotate_left
        · intro w hSw
          (try unfold RS at hSw)
          go_simp
          all_goals with_reducible rfl
        (try simp only [Act.put, List.setIfInBounds_toArray, List.set_cons_zero, List.set_cons_succ])
        refine take1 (i := 8) (v := ?_) rfl (by kernel_rfl) (by kernel_rfl) (by kernel_rfl) (by kernel_rfl) (by kernel_rfl) (by decide) (by decide) (fun _ _ _ h => h) (Or.inl ⟨by rfl, ?_⟩) hR hR ?_
        rotate_left
        · intro w hSw
          (try unfold RS at hSw)
          go_simp
          all_goals with_reducible rfl
        (try simp only [Act.put, List.setIfInBounds_toArray, List.set_cons_zero, List.set_cons_succ])
        refine take1 (i := 9) (v := ?_) rfl (by kernel_rfl) (by kernel_rfl) (by kernel_rfl) (by kernel_rfl) (by kernel_rfl) (by decide) (by decide) (fun _ _ _ h => h) (Or.inl ⟨by rfl, ?_⟩) hR hR ?_
        rotate_left
        · intro w hSw
          (try unfold RS at hSw)
          go_simp
          all_goals with_reducible rfl
        (try simp only [Act.put, List.setIfInBounds_toArray, List.set_cons_zero, List.set_cons_succ])
        refine take1 (i := 10) (v := ?_) rfl (by kernel_rfl) (by kernel_rfl) (by kernel_rfl) (by kernel_rfl) (by kernel_rfl) (by decide) (by decide) (fun _ _ _ h => h) (Or.inl ⟨by rfl, ?_⟩) hR hR ?_
        rotate_left
        · intro w hSw
          (try unfold RS at hSw)
          go_simp
          all_goals with_reducible rfl
        (try simp only [Act.put, List.setIfInBounds_toArray, List.set_cons_zero, List.set_cons_succ])
        refine take1 (i := 11) (v := ?_) rfl (by kernel_rfl) (by kernel_rfl) (by kernel_rfl) (by kernel_rfl) (by kernel_rfl) (by decide) (by decide) (fun _ _ _ h => h) (Or.inl ⟨by rfl, ?_⟩) hR hR ?_
        rotate_left
        · intro w hSw
          (try unfold RS at hSw)
          go_simp
          all_goals with_reducible rfl
        (try simp only [Act.put, List.setIfInBounds_toArray, List.set_cons_zero, List.set_cons_succ])
        refine stepT (i := 12) (by kernel_rfl) rfl (fun K hK => ?_)
        go_simp
        go_at_call 42
        refine (imul_eq HIx.out HIy.out EY.out).mono ?_
        rintro e V5 ⟨rfl, b5⟩
        have b5 := below_more (Below.refl W'.heap.size W').drew (Nat.le_refl _) b5
        have hR5 := hR00.keep b5
        go_wp2_with fail
        refine hK.out _ _ ⟨fun _ => hR5, fun _ => hR5⟩ ?_
        clear hK K hR
        have hR := hR5
        clear hR5
        (try simp only [Act.put, List.setIfInBounds_toArray, List.set_cons_zero, List.set_cons_succ])
        refine stepT (i := 13) (by kernel_rfl) rfl (fun K hK => ?_)
        go_simp
        go_at_call 37
        refine (iadd_eq HF.out HY.out EZ.out).mono ?_
        rintro e V6 ⟨rfl, b6⟩
        have b6 := below_more b5 (Nat.le_refl _) b6
        have hR6 := hR00.keep b6
        have P6 := P.keep b6
        obtain ⟨p1, p2, p3, p4⟩ := P6.cell he1
        go_wp2_with fail
        refine hK.out _ _ ⟨fun _ => hR6, fun _ => hR6⟩ ?_
        clear hK K hR
        have hR := hR6
        clear hR6
        (try simp only [Act.put, List.setIfInBounds_toArray, List.set_cons_zero, List.set_cons_succ])
        refine take1 (i := 14) (v := ?_) rfl (by kernel_rfl) (by kernel_rfl) (by kernel_rfl) (by kernel_rfl) (by kernel_rfl) (by decide) (by decide) (fun _ _ _ h => h) (Or.inl ⟨by rfl, ?_⟩) hR hR ?_
        rotate_left
        · intro w hSw
          (try unfold RS at hSw)
          go_simp
          all_goals with_reducible rfl
        (try simp only [Act.put, List.setIfInBounds_toArray, List.set_cons_zero, List.set_cons_succ])
        refine stepT (i := 15) (by kernel_rfl) rfl (fun K hK => ?_)
        go_simp
        refine hK.out _ _ ⟨fun h => absurd h (by decide), fun h => absurd h (by decide)⟩ ?_
        clear hK K
        (try simp only [Act.put, List.setIfInBounds_toArray, List.set_cons_zero, List.set_cons_succ])
        refine doneT (by kernel_rfl) ?_ _
        have HS := Lib.hid (P6.set e1 (sg zz) (mg zz))
        have hee : e1 = x.1 + y.1 := by omega
        have hO := (others_of_below b6).trans ((KeepsOthers.setCell _ ⟨b0, e1 * 2, none⟩ (.bool (sg zz))).trans (KeepsOthers.setCell _ ⟨b0, e1 * 2 + 1, none⟩ (.string (mg zz))))
        have hKt6 : Kt w.heap.size (bl + 1) W' _ := ((Kt.of_below b6 k1.1.2.size k3.lt).set (a := ⟨b0, e1 * 2, none⟩) (by dsimp only; omega) (by dsimp only; omega) (.bool (sg zz))).set (a := ⟨b0, e1 * 2 + 1, none⟩) (by dsimp only; omega) (by dsimp only; omega) (.string (mg zz))
        have hlt1 := k1.2.2
        refine (show KeepsFrom WN.heap.size W' _ ∧ Kt w.heap.size W.heap.size W' _ ∧ _ from ⟨hO.from _, ((Kt.of_below b6 k1.1.2.size kN.lt).set (a := ⟨b0, e1 * 2, none⟩) (by dsimp only; omega) (by dsimp only; omega) _).set (a := ⟨b0, e1 * 2 + 1, none⟩) (by dsimp only; omega) (by dsimp only; omega) _, ((k1.keep b6).far (a := ⟨b0, e1 * 2, none⟩) (by dsimp only; omega) (by dsimp only; omega) _).far (a := ⟨b0, e1 * 2 + 1, none⟩) (by dsimp only; omega) (by dsimp only; omega) _, .inr ⟨b0, rfl, hb0, ?_⟩, ((k3.keep b6).far (a := ⟨b0, e1 * 2, none⟩) (by dsimp only; omega) _).far (a := ⟨b0, e1 * 2 + 1, none⟩) (by dsimp only; omega) _, ((k8.keep b6).far (a := ⟨b0, e1 * 2, none⟩) (by dsimp only; omega) _).far (a := ⟨b0, e1 * 2 + 1, none⟩) (by dsimp only; omega) _, ((k9.keep b6).far (a := ⟨b0, e1 * 2, none⟩) (by dsimp only; omega) _).far (a := ⟨b0, e1 * 2 + 1, none⟩) (by dsimp only; omega) _, ((kN.keep b6).far (a := ⟨b0, e1 * 2, none⟩) (by dsimp only; omega) _).far (a := ⟨b0, e1 * 2 + 1, none⟩) (by dsimp only; omega) _, kF.trans (hO.from _), kT.trans hKt6⟩)
        rw [accY_snoc, EF.out]
        refine HS.out.congr fun i _ => ?_
        unfold upd2 stp
        by_cases e : i = e1
        · subst e
          rw [if_pos rfl, if_pos rfl, if_pos hee, EY.out, EZ.out]
          exact ⟨rfl, rfl⟩
        · rw [if_neg e, if_neg e, if_neg (by omega)]
          exact ⟨rfl, rfl⟩
      case done2 =>
        rintro ys' W' rfl ⟨k1, k2, k3, k8, k9, kN, kF, kT⟩
        gi_wp2
        exact ⟨kF, kT, k1, by rw [accX_snoc]; exact k2, k3⟩
      case stop2 =>
        rintro cc pre' W' _ h
        exact h.elim
    case done =>
      rintro D xs W hD rfl ⟨i1, i2, i3⟩ hK
      have x5 := i1.2.1
      unfold CVar at x5
      gi_wp2
      refine ⟨by simp, .inl ⟨_, _, rfl, run_takeDeferred hK, ?_⟩⟩
      have R5 := (i2.wider (show w.heap.size ≤ w.heap.size + 1 by omega)).kept (grownBy_putObj' W D (.deferred none)) (fun r e => by cases e; exact ⟨_, hK, rfl⟩)
      have B5 := below_put i1.1.2 D (Nat.le_trans B4.size hD) (.deferred none)
      exact ⟨.tuple #[.slice A0 N N, .int .i64 0], by simp [results, Tryz.results22, go_sem], _, rfl, R5.poly HO.out.1 (fun i hi => by
        rw [accX_full, HO.out.2 i]
        exact ⟨rfl, rfl⟩), B5⟩
    case stop =>
      rintro D cc pre W _ _ h _
      exact h.elim
end Go.Proofs.YtgcogpfmhmmgdaaGreatDoor

namespace Go.Proofs.YtgcogpfmhmmgdaaGreatDoor
open Go.RowKit Go.Shelf
attribute [local go_sem] Oper.semAt_some
set_option linter.unusedSimpArgs false
set_option linter.unusedVariables false

/-- Nothing, and an error's number. -/
def NoneOut (w : World) (x : Int) (e : Ending) (w' : World) : Prop := e = .returned (.tuple #[.slice none 0 0, .int .i64 x]) ∧ Below w.heap.size w w'
set_option maxRecDepth 100000 in
set_option maxHeartbeats 3200000 in
theorem pmul_zero1 (v1 v2 : Value) (L M : List Int) (k : Nat) (w : World) (h1 : PolyAt w v1 L k) (h2 : PolyAt w v2 M k) (hL : L.length ≤ 100000) (h0 : trm L = []) :
    Calls Tryz.prog 22 #[v1, v2] w (NoneOut w 0) := by
  have H1 := Lib.hid h1
  have HDL := Lib.hid (show degZ L = -1 by unfold degZ; rw [h0]; rfl)
  obtain ⟨A, c, g, s, rfl, -⟩ := h1.cells
  obtain ⟨A2, c2, g2, s2, rfl, -⟩ := h2.cells
  clear h0
  have KB : QB w (w.alloc (.cells #[.slice A2 M.length c2] 22)) (.slice A2 M.length c2) := ⟨CVar.new _ _ _, below1 _ _⟩
  refine (callsIn_wide (n := 8)).1 ?_
  refine callsIn_of_wp_marks Tryz.func22 rfl trivial ?_ rfl
  simp only [Tryz.ntmps22, List.size_toArray, List.length_cons, List.length_nil, Nat.reduceAdd, Nat.reduceSub, Array.replicate_succ, Array.replicate_zero, List.push_toArray, List.append_toArray, List.nil_append, List.cons_append]
  gi_wp2_with (refine ⟨trivial, ?_⟩; gi_at_call 10; (have BB := KB.2); (with_reducible refine (callsIn_wide.2 (deg_any _ L k _ (H1.out.keep2 BB) (by omega))).mono ?_); (rw [HDL.out]); rintro e W1 ⟨rfl, b1⟩; (have KB := KB.keep b1))
  refine ⟨trivial, ?_⟩
  gi_wp2
  exact ⟨.tuple #[.slice none 0 0, .int .i64 0], by simp [results, Tryz.results22, go_sem], rfl, KB.2⟩
set_option maxRecDepth 100000 in
set_option maxHeartbeats 3200000 in
theorem pmul_zero2 (v1 v2 : Value) (L M : List Int) (k : Nat) (w : World) (h1 : PolyAt w v1 L k) (h2 : PolyAt w v2 M k) (hL : L.length ≤ 100000) (hM : M.length ≤ 100000) (h0 : trm L ≠ []) (h00 : trm M = []) :
    Calls Tryz.prog 22 #[v1, v2] w (NoneOut w 0) := by
  have H1 := Lib.hid h1
  have H2 := Lib.hid h2
  obtain ⟨n0, hn0⟩ : ∃ n0, (trm L).length = n0 + 1 := ⟨(trm L).length - 1, by have := List.length_pos_iff.2 h0; omega⟩
  have HDL := Lib.hid (show degZ L = (n0 : Int) by unfold degZ; rw [hn0]; omega)
  have HDM := Lib.hid (show degZ M = -1 by unfold degZ; rw [h00]; rfl)
  have iL : ¬ (n0 : Int) < 0 := by omega
  obtain ⟨A, c, g, s, rfl, -⟩ := h1.cells
  obtain ⟨A2, c2, g2, s2, rfl, -⟩ := h2.cells
  clear h0 h00 hn0
  have KB : QB w (w.alloc (.cells #[.slice A2 M.length c2] 22)) (.slice A2 M.length c2) := ⟨CVar.new _ _ _, below1 _ _⟩
  refine (callsIn_wide (n := 8)).1 ?_
  refine callsIn_of_wp_marks Tryz.func22 rfl trivial ?_ rfl
  simp only [Tryz.ntmps22, List.size_toArray, List.length_cons, List.length_nil, Nat.reduceAdd, Nat.reduceSub, Array.replicate_succ, Array.replicate_zero, List.push_toArray, List.append_toArray, List.nil_append, List.cons_append]
  gi_wp2_with (refine ⟨trivial, ?_⟩; first
    | (gi_at_call 10; (have BB := KB.2); (with_reducible refine (callsIn_wide.2 (deg_any _ L k _ (H1.out.keep2 BB) (by omega))).mono ?_); (rw [HDL.out]); rintro e W1 ⟨rfl, b1⟩; (have KB := KB.keep b1); (have q1 := KB.1); (unfold CVar at q1))
    | (gi_at_call 10; (have BB := KB.2); (with_reducible refine (callsIn_wide.2 (deg_any _ M k _ (H2.out.keep2 BB) (by omega))).mono ?_); (rw [HDM.out]); rintro e W2 ⟨rfl, b2⟩; (have KB := KB.keep b2); (clear q1); (have q1 := KB.1); (unfold CVar at q1)))
  exact ⟨.tuple #[.slice none 0 0, .int .i64 0], by simp [results, Tryz.results22, go_sem], rfl, KB.2⟩
set_option maxRecDepth 100000 in
set_option maxHeartbeats 3200000 in
theorem pmul_big (v1 v2 : Value) (L M : List Int) (k : Nat) (w : World) (h1 : PolyAt w v1 L k) (h2 : PolyAt w v2 M k) (hL : L.length ≤ 100000) (hM : M.length ≤ 100000) (h0 : trm L ≠ []) (h00 : trm M ≠ []) (hd : 66 < (trm L).length + (trm M).length) :
    Calls Tryz.prog 22 #[v1, v2] w (NoneOut w 4) := by
  have H1 := Lib.hid h1
  have H2 := Lib.hid h2
  have tl := trm_len L
  have tm := trm_len M
  obtain ⟨n0, hn0⟩ : ∃ n0, (trm L).length = n0 + 1 := ⟨(trm L).length - 1, by have := List.length_pos_iff.2 h0; omega⟩
  obtain ⟨m0, hm0⟩ : ∃ m0, (trm M).length = m0 + 1 := ⟨(trm M).length - 1, by have := List.length_pos_iff.2 h00; omega⟩
  have HDL := Lib.hid (show degZ L = (n0 : Int) by unfold degZ; rw [hn0]; omega)
  have HDM := Lib.hid (show degZ M = (m0 : Int) by unfold degZ; rw [hm0]; omega)
  have iL : ¬ (n0 : Int) < 0 := by omega
  have iM : ¬ (m0 : Int) < 0 := by omega
  obtain ⟨D, hD⟩ : ∃ D, D = n0 + m0 := ⟨_, rfl⟩
  have hw : IntKind.i64.wrap ((n0 : Int) + (m0 : Int)) = (D : Int) := by rw [IntKind.wrap_i64]; omega
  have hD2 : (64 : Int) < (D : Int) := by omega
  obtain ⟨A, c, g, s, rfl, -⟩ := h1.cells
  obtain ⟨A2, c2, g2, s2, rfl, -⟩ := h2.cells
  clear hn0 hm0 hD hd h0 h00 tl tm
  have KB : QB w (w.alloc (.cells #[.slice A2 M.length c2] 22)) (.slice A2 M.length c2) := ⟨CVar.new _ _ _, below1 _ _⟩
  refine (callsIn_wide (n := 8)).1 ?_
  refine callsIn_of_wp_marks Tryz.func22 rfl trivial ?_ rfl
  simp only [Tryz.ntmps22, List.size_toArray, List.length_cons, List.length_nil, Nat.reduceAdd, Nat.reduceSub, Array.replicate_succ, Array.replicate_zero, List.push_toArray, List.append_toArray, List.nil_append, List.cons_append]
  gi_wp2_with (refine ⟨trivial, ?_⟩; first
    | (gi_at_call 10; (have BB := KB.2); (with_reducible refine (callsIn_wide.2 (deg_any _ L k _ (H1.out.keep2 BB) (by omega))).mono ?_); (rw [HDL.out]); rintro e W1 ⟨rfl, b1⟩; (have KB := KB.keep b1); (have q1 := KB.1); (unfold CVar at q1))
    | (gi_at_call 10; (have BB := KB.2); (with_reducible refine (callsIn_wide.2 (deg_any _ M k _ (H2.out.keep2 BB) (by omega))).mono ?_); (rw [HDM.out]); rintro e W2 ⟨rfl, b2⟩; (have KB := KB.keep b2); (clear q1); (have q1 := KB.1); (unfold CVar at q1)))
  refine wpIn_wide.2 ?_
  go_cut [6] from 20 to 24 (fun s6 wx => s6 = .int .i64 (D : Int) ∧ QB w wx (.slice A2 M.length c2))
  case first =>
    have KB := KB.keep (Below.refl _ _).drew
    clear q1
    have q1 := KB.1
    go_region_held3 (fun W => W.cell? ⟨w.heap.size, 0, none⟩ = some (.slice A2 M.length c2)) (first | (with_reducible exact q1) | exact KB.1)
      (first
        | (go_at_call_of 10 (Value.slice A L.length c); (have BB := KB.2); (with_reducible refine (deg_any _ L k _ (H1.out.keep2 BB) (by omega)).mono ?_); (rw [HDL.out]); rintro e X ⟨rfl, bX⟩; have KB1 := QB.keep KB bX; have KB := KB1; have q1 := KB.1)
        | (go_at_call_of 10 (Value.slice A2 M.length c2); (have BB := KB.2); (with_reducible refine (deg_any _ M k _ (H2.out.keep2 BB) (by omega)).mono ?_); (rw [HDM.out]); rintro e X ⟨rfl, bX⟩; have KB1 := QB.keep KB bX; have KB := KB1; have q1 := KB.1))
    all_goals go_wp2_with fail
    all_goals go_meet
    all_goals exact ⟨rfl, KB⟩
  case rest =>
    obtain ⟨rfl, KB'⟩ := hcut
    clear q1 KB
    have KB := KB'
    clear KB'
    gi_wp2
    exact ⟨.tuple #[.slice none 0 0, .int .i64 4], by simp [results, Tryz.results22, go_sem], rfl, KB.2⟩
end Go.Proofs.YtgcogpfmhmmgdaaGreatDoor
