/- Rows of one's own between the rounds of a range over terms. No condition. What polynomial.exactQuotient returns. Condition: at most 10^5 coefficients, of at most 10^6 digits to the base 2^32; the divisor is not 0. What polynomial.multiple returns. Condition: at most 10^5 coefficients, of at most 10^6 digits to the base 2^32. -/
import Derived.Test.YtgcogpfmhmmgdaaGreatDoorQ31
import Derived.Test.YtgcogpfmhmmgdaaGreatDoorQ21
import Derived.Deep.RegionHeld3
import Derived.Test.YtgcogpfmhmmgdaaGreatDoorQ23
import Derived.Test.YtgcogpfmhmmgdaaGreatDoorQ22
import Derived.Test.YtgcogpfmhmmgdaaGreatDoorQ19

namespace Go.Proofs.YtgcogpfmhmmgdaaGreatDoor
open Go.RowKit Go.Shelf
set_option linter.unusedSimpArgs false
set_option linter.unusedVariables false

/-- A row of one's own, or none where it has no places. -/
def OwnRow (W : World) (base : Nat) (A : Option Addr) (n : Nat) (g : Nat → Bool) (s : Nat → ByteArray) : Prop := (n = 0 ∧ A = none) ∨ ∃ b, A = some ⟨b, 0, none⟩ ∧ base ≤ b ∧ PRow W b n g s
theorem OwnRow.keep {W W1 : World} {base n : Nat} {A : Option Addr} {g : Nat → Bool} {s : Nat → ByteArray} (h : OwnRow W base A n g s) (hb : Below W.heap.size W W1) : OwnRow W1 base A n g s := by
  rcases h with h | ⟨b, h1, h2, h3⟩
  · exact .inl h
  · exact .inr ⟨b, h1, h2, h3.keep hb⟩
theorem PRow.kept {W W1 : World} {b n : Nat} {g : Nat → Bool} {s : Nat → ByteArray} {row : Option Nat} (h : PRow W b n g s) (hg : W.grownBy W1 row) (hr : ∀ r, row = some r → ∃ o : Obj, W.heap[r]? = some o ∧ o.isCells = false) : PRow W1 b n g s := by
  obtain ⟨c, h1, h2, h3⟩ := h
  exact ⟨c, (grownBy_keeps_cells hg hr h1 rfl).trans h1, h2, h3⟩
theorem OwnRow.kept {W W1 : World} {base n : Nat} {A : Option Addr} {g : Nat → Bool} {s : Nat → ByteArray} {row : Option Nat} (h : OwnRow W base A n g s) (hg : W.grownBy W1 row) (hr : ∀ r, row = some r → ∃ o : Obj, W.heap[r]? = some o ∧ o.isCells = false) : OwnRow W1 base A n g s := by
  rcases h with h | ⟨b, h1, h2, h3⟩
  · exact .inl h
  · exact .inr ⟨b, h1, h2, h3.kept hg hr⟩
theorem OwnRow.congr {W : World} {base n : Nat} {A : Option Addr} {g g' : Nat → Bool} {s s' : Nat → ByteArray} (h : OwnRow W base A n g s) (e : ∀ i, i < n → g i = g' i ∧ s i = s' i) : OwnRow W base A n g' s' := by
  rcases h with h | ⟨b, h1, h2, h3⟩
  · exact .inl h
  · exact .inr ⟨b, h1, h2, h3.congr e⟩
theorem OwnRow.poly {W : World} {base n : Nat} {A : Option Addr} {g : Nat → Bool} {s : Nat → ByteArray} {C : List Int} (h : OwnRow W base A n g s) (hn : C.length = n) (hc : ∀ i, i < n → g i = sg (co C i) ∧ s i = mg (co C i)) : PolyC W base (.slice A n n) C := by
  rcases h with ⟨rfl, rfl⟩ | ⟨b, rfl, h2, h3⟩
  · exact .inl ⟨rfl, List.eq_nil_of_length_eq_zero hn⟩
  · exact .inr ⟨b, n, n, by rw [hn], by omega, by omega, h2, g, s, h3, fun i hi => hc i (by omega)⟩
theorem blank_row (d : Int) (n : Nat) (w : World) (hd : (n : Int) = d + 1 ∨ (n = 0 ∧ d < 0)) (hn : n ≤ 1000000000) (hd0 : -9223372036854775807 ≤ d) :
    Calls Tryz.prog 41 #[.int .i64 d] w fun e w' => ∃ A, e = .returned (.slice A n n) ∧ OwnRow w' w.heap.size A n (fun _ => false) (fun _ => ⟨#[]⟩) ∧ Below w.heap.size w w' := by
  refine (blank_any d n w hd hn hd0).mono ?_
  rintro e w' (⟨rfl, rfl, rfl⟩ | ⟨h0, rfl, rfl⟩)
  · exact ⟨none, rfl, .inl ⟨rfl, rfl⟩, Below.refl _ _⟩
  · exact ⟨_, rfl, .inr ⟨_, rfl, Nat.le_refl _, PRow.made w n⟩, below1 w _⟩
theorem OwnRow.wider {W : World} {base base' n : Nat} {A : Option Addr} {g : Nat → Bool} {s : Nat → ByteArray} (h : OwnRow W base A n g s) (hb : base' ≤ base) : OwnRow W base' A n g s := by
  rcases h with h | ⟨b, h1, h2, h3⟩
  · exact .inl h
  · exact .inr ⟨b, h1, Nat.le_trans hb h2, h3⟩
theorem others_of_below {W W1 : World} (h : Below W.heap.size W W1) : KeepsOthers W W1 := ⟨h.size, fun k o hk _ => (h.block k (Array.getElem?_eq_some_iff.1 hk).1).trans hk⟩
/-- An integer's variable. -/
def IVar (W : World) (p : Nat) (g : Bool) (s : ByteArray) : Prop := W.cell? ⟨p, 0, none⟩ = some (.bool g) ∧ W.cell? ⟨p, 1, none⟩ = some (.string s)
theorem IVar.keep {W W1 : World} {p : Nat} {g : Bool} {s : ByteArray} (h : IVar W p g s) (hb : Below W.heap.size W W1) : IVar W1 p g s := ⟨cell_keep h.1 hb, cell_keep h.2 hb⟩
theorem IVar.new (W : World) (g : Bool) (s : ByteArray) (t : TypeId) : IVar (W.alloc (.cells #[.bool g, .string s] t)) W.heap.size g s := by constructor <;> simp [go_sem]
theorem IVar.kept {W W1 : World} {p : Nat} {g : Bool} {s : ByteArray} {row : Option Nat} (h : IVar W p g s) (hg : W.grownBy W1 row) (hr : ∀ r, row = some r → ∃ o : Obj, W.heap[r]? = some o ∧ o.isCells = false) : IVar W1 p g s := ⟨cell_kept h.1 hg hr, cell_kept h.2 hg hr⟩
theorem IVar.far {W : World} {p : Nat} {g : Bool} {s : ByteArray} (h : IVar W p g s) {a : Addr} (ha : p ≠ a.block) (u : Value) : IVar (W.setCell a u) p g s := ⟨by rw [World.cell?_setCell_far _ _ _ _ (fun e => ha e.symm)]; exact h.1, by rw [World.cell?_setCell_far _ _ _ _ (fun e => ha e.symm)]; exact h.2⟩
theorem IVar.lt {W : World} {p : Nat} {g : Bool} {s : ByteArray} (h : IVar W p g s) : p < W.heap.size := World.block_lt_of_cell? W ⟨p, 0, none⟩ h.1
/-- A variable of one cell. -/
def CVar (W : World) (p : Nat) (v : Value) : Prop := W.cell? ⟨p, 0, none⟩ = some v
theorem CVar.keep {W W1 : World} {p : Nat} {v : Value} (h : CVar W p v) (hb : Below W.heap.size W W1) : CVar W1 p v := cell_keep h hb
theorem CVar.new (W : World) (v : Value) (t : TypeId) : CVar (W.alloc (.cells #[v] t)) W.heap.size v := by unfold CVar; simp [go_sem]
theorem CVar.far {W : World} {p : Nat} {v : Value} (h : CVar W p v) {a : Addr} (ha : p ≠ a.block) (u : Value) : CVar (W.setCell a u) p v := by unfold CVar; rw [World.cell?_setCell_far _ _ _ _ (fun e => ha e.symm)]; exact h
theorem CVar.kept {W W1 : World} {p : Nat} {v : Value} {row : Option Nat} (h : CVar W p v) (hg : W.grownBy W1 row) (hr : ∀ r, row = some r → ∃ o : Obj, W.heap[r]? = some o ∧ o.isCells = false) : CVar W1 p v := cell_kept h hg hr
theorem CVar.lt {W : World} {p : Nat} {v : Value} (h : CVar W p v) : p < W.heap.size := World.block_lt_of_cell? W ⟨p, 0, none⟩ h
theorem qD_zero {d : Int} (hd : d ≠ 0) : qD 0 d = 0 := by
  obtain ⟨s1, s2, s3⟩ := qD_spec (a := 0) (b := d) hd
  exact (div_one s1 (q' := 0) (r' := 0) (by omega) ⟨s2, s3⟩ ⟨fun _ => by omega, fun _ => by omega⟩ hd).1
/-- What some exponents of a list of terms have got. -/
def got {α : Type} {L : List Int} (pre : List (Tm L)) (f : Nat → α) (z : α) (j : Nat) : α := if j ∈ pre.map (·.1) then f j else z
theorem got_nil {α : Type} {L : List Int} (f : Nat → α) (z : α) : got ([] : List (Tm L)) f z = fun _ => z := by
  funext j
  unfold got
  rw [if_neg (by simp)]
theorem got_snoc {α : Type} {L : List Int} (pre : List (Tm L)) (x : Tm L) (f : Nat → α) (z : α) : got (pre ++ [x]) f z = upd2 (got pre f z) x.1 (f x.1) := by
  funext j
  unfold got upd2
  by_cases h : j = x.1
  · subst h; rw [if_pos (by simp), if_pos rfl]
  · rw [if_neg h]
    show _ = if j ∈ pre.map (·.1) then f j else z
    by_cases h2 : j ∈ pre.map (·.1)
    · rw [if_pos h2, if_pos (by rw [List.map_append]; exact List.mem_append_left _ h2)]
    · rw [if_neg h2, if_neg (by rw [List.map_append]; intro h3; rcases List.mem_append.1 h3 with h3 | h3; exact h2 h3; exact h (by simpa using h3))]
theorem got_all {α : Type} {L : List Int} (f : Nat → α) (z : α) (hz : ∀ j, co L j = 0 → f j = z) (j : Nat) : got (tmx L L.length) f z j = f j := by
  unfold got
  by_cases h : co L j = 0
  · split
    · rfl
    · exact (hz j h).symm
  · have hj : j < L.length := by
      rcases Nat.lt_or_ge j L.length with h1 | h1
      · exact h1
      · exact absurd (co_ge h1) h
    have hm : j ∈ (tmx L L.length).map (·.1) := List.mem_map.2 ⟨⟨j, h⟩, tmx_mem L L.length j h hj, rfl⟩
    rw [if_pos hm]
end Go.Proofs.YtgcogpfmhmmgdaaGreatDoor

namespace Go.Proofs.YtgcogpfmhmmgdaaGreatDoor
open Go.RowKit Go.Shelf
attribute [local go_sem] Oper.semAt_some
set_option linter.unusedSimpArgs false
set_option linter.unusedVariables false

set_option maxRecDepth 100000 in
set_option maxHeartbeats 6400000 in
theorem exq_any (v1 v2 : Value) (L C : List Int) (d : Int) (k : Nat) (w : World) (h1 : PolyAt w v1 L k) (h2 : IsInt v2 d k) (hL : L.length ≤ 100000) (hk : k ≤ 1000000) (hd : trm L ≠ [] → d ≠ 0) (hC : C.length = (trm L).length) (hco : ∀ i, co C i = qD (co L i) d) :
    Calls Tryz.prog 97 #[v1, v2] w (PolyOut w C) := by
  have H1 := Lib.hid h1
  have H2 := Lib.hid h2
  have HO := Lib.hid hco
  have HD := Lib.hid hd
  obtain ⟨n, hn⟩ : ∃ n, n = (trm L).length := ⟨_, rfl⟩
  have HN := Lib.hid (And.intro hC hn)
  have hn1 : n ≤ 100000 := by have := trm_len L; omega
  have HX := Lib.hid (show degZ L = (n : Int) - 1 by unfold degZ; omega)
  obtain ⟨A, c, g, s, rfl, hcells⟩ := h1.cells
  have HCL := Lib.hid hcells
  obtain ⟨gd, sd, rfl, -⟩ := h2
  clear hco hd hC hn hcells
  refine (callsIn_wide (n := 8)).1 ?_
  refine callsIn_of_wp_marks Tryz.func97 rfl trivial ?_ rfl
  simp only [Tryz.ntmps97, List.size_toArray, List.length_cons, List.length_nil, Nat.reduceAdd, Nat.reduceSub, Array.replicate_succ, Array.replicate_zero, List.push_toArray, List.append_toArray, List.nil_append, List.cons_append]
  have X0 := IVar.new w gd sd 27
  have B0 := below1 w (.cells #[.bool gd, .string sd] 27)
  gi_wp2_with (refine ⟨trivial, ?_⟩; first
    | (gi_at_call 10; (with_reducible refine (callsIn_wide.2 (deg_any _ L k _ (H1.out.keep B0) (by omega))).mono ?_); rintro e W1 ⟨rfl, b1⟩; (rw [HX.out]); (have X1 := X0.keep b1); (have B1 := below_more B0 (Nat.le_refl _) b1); (clear X0 B0))
    | (gi_at_call 41; (with_reducible refine (callsIn_wide.2 (blank_row _ n _ (by omega) (by omega) (by omega))).mono ?_); rintro e W2 ⟨A0, rfl, R2, b2⟩; (have X2 := X1.keep b2); (have B2 := below_more B1 (Nat.le_refl _) b2))
    | (gi_at_call 46; (with_reducible refine (callsIn_wide.2 (terms_any A L.length c _)).mono ?_); rintro e W3 ⟨rfl, rfl⟩))
  have X4 := X2.keep (below2 W2 (.cells #[.slice A0 n n] 22) (.cells #[.slice A L.length c] 22))
  have L4 := (CVar.new W2 (.slice A0 n n) 22).keep (below1 _ (.cells #[.slice A L.length c] 22))
  have T4 := CVar.new (W2.alloc (.cells #[.slice A0 n n] 22)) (.slice A L.length c) 22
  rw [World.size_alloc] at T4
  have R4 := ((R2.wider B1.size).keep (below2 W2 (.cells #[.slice A0 n n] 22) (.cells #[.slice A L.length c] 22)))
  have B4 := below_more B2 (Nat.le_refl _) (below2 W2 (.cells #[.slice A0 n n] 22) (.cells #[.slice A L.length c] 22))
  generalize ((W2.alloc (.cells #[.slice A0 n n] 22)).alloc (.cells #[.slice A L.length c] 22)) = W4 at *
  have HA := Lib.hid (show ∀ b, A0 = some ⟨b, 0, none⟩ → w.heap.size < b ∧ b < W2.heap.size by
    intro b hb
    rcases R2 with ⟨_, h⟩ | ⟨b', h1, h2, h3⟩
    · rw [h] at hb; cases hb
    · rw [h1] at hb
      injection hb with hb
      injection hb with hb
      have := h3.lt
      have hs := b1.size
      simp only [World.size_alloc] at hs
      omega)
  generalize W2.heap.size = bl at *
  have hT := T4.lt
  have C4 := HCL.out.keep B4
  have hX := X4.lt
  clear X1 X2 B1 B2 R2 b1 b2 W1
  have HR0 := Lib.hid (show OwnRow W4 w.heap.size A0 n (got ([] : List (Tm L)) (fun j => sg (qD (co L j) d)) false) (got ([] : List (Tm L)) (fun j => mg (qD (co L j) d)) ⟨#[]⟩) by rw [got_nil, got_nil]; exact R4)
  refine wpIn_rangeFunc_ownH rfl (by omega) (gf := 83) (lb := #[.pointer (some ⟨bl + 1, 0, none⟩)]) rfl trivial (enters_of Tryz.func83 (by kernel_rfl) rfl)
    (terms_stops _ (bl + 1) w.heap.size c k A L g s W4 (by omega) (by omega) T4 B4.size C4) (fun h h' => h.trans h') (Kt.turn B4.size hT) (Below.refl _ _) (fun _ => rfl)
    (fun pre W => IVar W w.heap.size gd sd ∧ CVar W bl (.slice A0 n n) ∧ OwnRow W w.heap.size A0 n (got pre (fun j => sg (qD (co L j) d)) false) (got pre (fun j => mg (qD (co L j) d)) ⟨#[]⟩) ∧ CVar W (bl + 1) (.slice A L.length c) ∧ Below w.heap.size w W)
    (fun _ _ _ => False)
    (fun pre X Y row hs hg hr => ⟨hs.1.kept hg (fun r e => (hr r e).2), hs.2.1.kept hg (fun r e => (hr r e).2), hs.2.2.1.kept hg (fun r e => (hr r e).2), hs.2.2.2.1.kept hg (fun r e => (hr r e).2), hs.2.2.2.2.grown hg hs.2.2.2.2.size (fun r e => Nat.le_trans B4.size (hr r e).1)⟩)
    (fun _ _ _ _ _ hs _ _ => hs)
    ⟨X4, L4, HR0.out, T4, B4⟩
    (fun x a' W => ∃ Bx, bl + 1 < Bx ∧ IVar W Bx (g x.1) (s x.1) ∧ a' = { tmps := #[.slice A L.length c, .agg #[.bool gd, .string sd], undef, .pointer (some ⟨w.heap.size, 0, none⟩), .slice none 0 0, .pointer (some ⟨bl, 0, none⟩), .int .i64 (x.1 : Int), .pointer (some ⟨Bx, 0, none⟩), .slice A L.length c, .int .i64 ((n : Int) - 1), .slice A0 n n, .slice A L.length c, .func (.func 83) #[] #[.pointer (some ⟨bl + 1, 0, none⟩)], .int .i64 (x.1 : Int), .agg #[.bool (g x.1), .string (s x.1)], undef, undef, undef, undef, undef, undef, undef, undef, undef, undef, undef], defers := [] })
    (fun x a' _ X Y row hs hg hr => by
      obtain ⟨Bx, h1, h2, h3⟩ := hs
      exact ⟨Bx, h1, h2.kept hg (fun r e => (hr r e).2), h3⟩)
    ?assign ?body ?done ?stop
  case assign =>
    rintro l pre x W K ⟨i1, i2, i3, i4, i5⟩ hK
    have hKK := Lib.hid hK
    clear hK
    gi_wp2
    exact hKK.out _ _ ((KeepsOthers.alloc _ _).from _) (Kt.of_below (below1 W _) i5.size i4.lt) ⟨i1.keep (below1 W _), i2.keep (below1 W _), i3.keep (below1 W _), i4.keep (below1 W _), below_more i5 (Nat.le_refl _) (below1 W _)⟩ ⟨W.heap.size, i4.lt, IVar.new W _ _ _, rfl⟩
  case body =>
    rintro l pre x a' W hl ⟨r, hr⟩ ⟨i1, i2, i3, i4, i5⟩ ⟨Bx, hBx, bX, rfl⟩ hlt
    have hxn : x.1 < n := by rw [HN.out.2]; exact x.lt
    have hd0 := Lib.hid (HD.out (fun h => by have := x.lt; rw [h] at this; simp at this))
    have hxL : x.1 < L.length := by have := trm_len L; have := HN.out.2; omega
    rcases i3 with ⟨h0, -⟩ | ⟨b0, rfl, hb0, P⟩
    · omega
    obtain ⟨hb1, hb2⟩ := HA.out b0 rfl
    obtain ⟨-, -, -, -, -, hI⟩ := HCL.out x.1 hxL
    have HI := Lib.hid hI
    obtain ⟨q, Eq⟩ : ∃ q, Hid (qD (co L x.1) d = q) := ⟨_, Lib.hid rfl⟩
    obtain ⟨r', Er⟩ : ∃ r, Hid (rD (co L x.1) d = r) := ⟨_, Lib.hid rfl⟩
    obtain ⟨x1, x2⟩ := id i1
    obtain ⟨x3, x4⟩ := id bX
    have x5 : W.cell? ⟨bl, 0, none⟩ = some (.slice (some ⟨b0, 0, none⟩) n n) := i2
    have hxi : (x.1 : Int) < (n : Int) := by omega
    have hx0 : (0 : Int) ≤ (x.1 : Int) := by omega
    clear hI
    gi_wp2
    refine region_in_round (S := (fun W' => W'.cell? ⟨w.heap.size, 0, none⟩ = some (.bool gd) ∧ W'.cell? ⟨w.heap.size, 1, none⟩ = some (.string sd) ∧ W'.cell? ⟨bl, 0, none⟩ = some (.slice (some ⟨b0, 0, none⟩) n n) ∧ W'.cell? ⟨Bx, 0, none⟩ = some (.bool (g x.1)) ∧ W'.cell? ⟨Bx, 1, none⟩ = some (.string (s x.1)))) (by kernel_rfl) (all_plain (by kernel_rfl)) (by rintro ⟨_, _, h⟩; exact h) ?_ (fun hHeld => ?_)
    · exact ⟨x1, x2, x5, x3, x4⟩
    refine wpAnyH_take (i := 0) (v := ?_) rfl (by kernel_rfl) (by kernel_rfl) (by kernel_rfl) (fun _ _ _ h => h) (Or.inl ⟨by rfl, ?_⟩) (by assumption) ?_
    rotate_left
    · intro w hSw
      (try dsimp only at hSw)
      go_simp
      all_goals with_reducible rfl
    (try simp only [Act.put, List.setIfInBounds_toArray, List.set_cons_zero, List.set_cons_succ])
    refine wpAnyH_take (i := 1) (v := ?_) rfl (by kernel_rfl) (by kernel_rfl) (by kernel_rfl) (fun _ _ _ h => h) (Or.inl ⟨by rfl, ?_⟩) (by assumption) ?_
    rotate_left
    · intro w hSw
      (try dsimp only at hSw)
      go_simp
      all_goals with_reducible rfl
    (try simp only [Act.put, List.setIfInBounds_toArray, List.set_cons_zero, List.set_cons_succ])
    refine wpAnyH_take (i := 2) (v := ?_) rfl (by kernel_rfl) (by kernel_rfl) (by kernel_rfl) (fun _ _ _ h => h) (Or.inl ⟨by rfl, ?_⟩) (by assumption) ?_
    rotate_left
    · intro w hSw
      (try dsimp only at hSw)
      go_simp
      all_goals with_reducible rfl
    (try simp only [Act.put, List.setIfInBounds_toArray, List.set_cons_zero, List.set_cons_succ])
    refine wpAnyH_take (i := 3) (v := ?_) rfl (by kernel_rfl) (by kernel_rfl) (by kernel_rfl) (fun _ _ _ h => h) (Or.inl ⟨by rfl, ?_⟩) (by assumption) ?_
    rotate_left
    · intro w hSw
      (try dsimp only at hSw)
      go_simp
      all_goals with_reducible rfl
    (try simp only [Act.put, List.setIfInBounds_toArray, List.set_cons_zero, List.set_cons_succ])
    refine wpAnyH_ready (rs := [4]) (by kernel_rfl) (by simp) ?_
    refine AllReadyH.cons rfl (fun K hK => ?_) AllReadyH.nil
    go_simp
    go_at_call 90; refine (ediv_eq HI.out H2.out hd0.out Eq.out Er.out).mono ?_; rintro e W5 ⟨rfl, b5⟩; have b5 := below_more (Below.refl W.heap.size W).drew (Nat.le_refl _) b5; have P5 := P.keep b5; obtain ⟨p1, p2, p3, p4⟩ := P5.cell hxn
    go_wp2_with fail
    refine hK.out _ _ ?_ (fun hHeld => ?_)
    · (try dsimp only)
      exact ⟨cell_keep x1 b5, cell_keep x2 b5, cell_keep x5 b5, cell_keep x3 b5, cell_keep x4 b5⟩
    clear hK K
    (try simp only [Act.put, List.setIfInBounds_toArray, List.set_cons_zero, List.set_cons_succ])
    refine wpAnyH_take (i := 5) (v := ?_) rfl (by kernel_rfl) (by kernel_rfl) (by kernel_rfl) (fun _ _ _ h => h) (Or.inl ⟨by rfl, ?_⟩) (by assumption) ?_
    rotate_left
    · intro w hSw
      (try dsimp only at hSw)
      go_simp
      all_goals with_reducible rfl
    (try simp only [Act.put, List.setIfInBounds_toArray, List.set_cons_zero, List.set_cons_succ])
    refine wpAnyH_take (i := 6) (v := ?_) rfl (by kernel_rfl) (by kernel_rfl) (by kernel_rfl) (fun _ _ _ h => h) (Or.inl ⟨by rfl, ?_⟩) (by assumption) ?_
    rotate_left
    · intro w hSw
      (try dsimp only at hSw)
      go_simp
      all_goals with_reducible rfl
    (try simp only [Act.put, List.setIfInBounds_toArray, List.set_cons_zero, List.set_cons_succ])
    refine wpAnyH_take (i := 7) (v := ?_) rfl (by kernel_rfl) (by kernel_rfl) (by kernel_rfl) (fun _ _ _ h => h) (Or.inl ⟨by rfl, ?_⟩) (by assumption) ?_
    rotate_left
    · intro w hSw
      (try dsimp only at hSw)
      go_simp
      all_goals with_reducible rfl
    (try simp only [Act.put, List.setIfInBounds_toArray, List.set_cons_zero, List.set_cons_succ])
    refine wpAnyH_take (i := 8) (v := ?_) rfl (by kernel_rfl) (by kernel_rfl) (by kernel_rfl) (fun _ _ _ h => h) (Or.inl ⟨by rfl, ?_⟩) (by assumption) ?_
    rotate_left
    · intro w hSw
      (try dsimp only at hSw)
      go_simp
      all_goals with_reducible rfl
    (try simp only [Act.put, List.setIfInBounds_toArray, List.set_cons_zero, List.set_cons_succ])
    refine wpAnyH_take (i := 9) (v := ?_) rfl (by kernel_rfl) (by kernel_rfl) (by kernel_rfl) (fun _ _ _ h => h) (Or.inl ⟨by rfl, ?_⟩) (by assumption) ?_
    rotate_left
    · intro w hSw
      (try dsimp only at hSw)
      go_simp
      all_goals with_reducible rfl
    (try simp only [Act.put, List.setIfInBounds_toArray, List.set_cons_zero, List.set_cons_succ])
    refine wpAnyH_ready (rs := [10]) (by kernel_rfl) (by simp) ?_
    refine AllReadyH.cons rfl (fun K hK => ?_) AllReadyH.nil
    go_simp
    refine hK.out _ _ ?_ (fun hHeld => ?_)
    · (try dsimp only)
      exact ⟨(((i1.keep b5).far (a := ⟨b0, x.1 * 2, none⟩) (by dsimp only; omega) _).far (a := ⟨b0, x.1 * 2 + 1, none⟩) (by dsimp only; omega) _).1, (((i1.keep b5).far (a := ⟨b0, x.1 * 2, none⟩) (by dsimp only; omega) _).far (a := ⟨b0, x.1 * 2 + 1, none⟩) (by dsimp only; omega) _).2, ((i2.keep b5).far (a := ⟨b0, x.1 * 2, none⟩) (by dsimp only; omega) _).far (a := ⟨b0, x.1 * 2 + 1, none⟩) (by dsimp only; omega) _, (((bX.keep b5).far (a := ⟨b0, x.1 * 2, none⟩) (by dsimp only; omega) _).far (a := ⟨b0, x.1 * 2 + 1, none⟩) (by dsimp only; omega) _).1, (((bX.keep b5).far (a := ⟨b0, x.1 * 2, none⟩) (by dsimp only; omega) _).far (a := ⟨b0, x.1 * 2 + 1, none⟩) (by dsimp only; omega) _).2⟩
    clear hK K
    (try simp only [Act.put, List.setIfInBounds_toArray, List.set_cons_zero, List.set_cons_succ])
    refine wpAnyH_done (by kernel_rfl) ?_ _
    have HS := Lib.hid (P5.set x.1 (sg q) (mg q))
    refine (show KeepsFrom W4.heap.size W _ ∧ Kt w.heap.size (bl + 1) W _ ∧ _ from ⟨((others_of_below b5).trans ((KeepsOthers.setCell _ _ _).trans (KeepsOthers.setCell _ _ _))).from _, ((Kt.of_below b5 i5.size i4.lt).set (a := ⟨b0, x.1 * 2, none⟩) hb0 (by dsimp only; omega) _).set (a := ⟨b0, x.1 * 2 + 1, none⟩) hb0 (by dsimp only; omega) _, ((i1.keep b5).far (a := ⟨b0, x.1 * 2, none⟩) (by dsimp only; omega) _).far (a := ⟨b0, x.1 * 2 + 1, none⟩) (by dsimp only; omega) _, ((i2.keep b5).far (a := ⟨b0, x.1 * 2, none⟩) (by dsimp only; omega) _).far (a := ⟨b0, x.1 * 2 + 1, none⟩) (by dsimp only; omega) _, .inr ⟨b0, rfl, hb0, ?_⟩, ((i4.keep b5).far (a := ⟨b0, x.1 * 2, none⟩) (by dsimp only; omega) _).far (a := ⟨b0, x.1 * 2 + 1, none⟩) (by dsimp only; omega) _, ((below_more i5 (Nat.le_refl _) b5).setCell (p := ⟨b0, x.1 * 2, none⟩) hb0 _).setCell (p := ⟨b0, x.1 * 2 + 1, none⟩) hb0 _⟩)
    rw [got_snoc, got_snoc]
    show PRow _ b0 n (upd2 _ x.1 (sg (qD (co L x.1) d))) (upd2 _ x.1 (mg (qD (co L x.1) d)))
    rw [Eq.out]
    exact HS.out
  case done =>
    rintro D xs W hD rfl ⟨i1, i2, i3, i4, i5⟩ hK
    have x5 : W.cell? ⟨bl, 0, none⟩ = some (.slice A0 n n) := i2
    gi_wp2
    refine ⟨by simp, .inl ⟨_, _, rfl, run_takeDeferred hK, ?_⟩⟩
    have R5 := i3.kept (grownBy_putObj' W D (.deferred none)) (fun r e => by cases e; exact ⟨_, hK, rfl⟩)
    have B5 := below_put i5 D (Nat.le_trans B4.size hD) (.deferred none)
    have hd0 : ∀ i, i < n → d ≠ 0 := fun i hi => HD.out (fun h => by have := HN.out.2; rw [h] at this; simp at this; omega)
    exact ⟨.slice A0 n n, by simp [results, Tryz.results97, go_sem], _, rfl, R5.poly (by rw [HN.out.1, HN.out.2]) (fun i hi => by
      rw [got_all _ _ (fun j hj => by rw [hj, qD_zero (hd0 i hi)]; exact sg_zero), got_all _ _ (fun j hj => by rw [hj, qD_zero (hd0 i hi)]; exact mg_zero), HO.out i]
      exact ⟨rfl, rfl⟩), B5⟩
  case stop =>
    rintro D cc pre W _ _ h _
    exact h.elim
end Go.Proofs.YtgcogpfmhmmgdaaGreatDoor

namespace Go.Proofs.YtgcogpfmhmmgdaaGreatDoor
open Go.RowKit Go.Shelf
attribute [local go_sem] Oper.semAt_some
set_option linter.unusedSimpArgs false
set_option linter.unusedVariables false

theorem PRow.far {W : World} {b n : Nat} {g : Nat → Bool} {s : Nat → ByteArray} (h : PRow W b n g s) {a : Addr} (ha : b ≠ a.block) (u : Value) : PRow (W.setCell a u) b n g s := World.rowIs.setOther h ha u
theorem OwnRow.far {W : World} {base n : Nat} {A : Option Addr} {g : Nat → Bool} {s : Nat → ByteArray} (h : OwnRow W base A n g s) {a : Addr} (ha : ∀ b, A = some ⟨b, 0, none⟩ → b ≠ a.block) (u : Value) : OwnRow (W.setCell a u) base A n g s := by
  rcases h with h | ⟨b, h1, h2, h3⟩
  · exact .inl h
  · exact .inr ⟨b, h1, h2, h3.far (ha b h1) u⟩
theorem OwnRow.lt {W : World} {base n : Nat} {A : Option Addr} {g : Nat → Bool} {s : Nat → ByteArray} (h : OwnRow W base A n g s) : ∀ b, A = some ⟨b, 0, none⟩ → base ≤ b ∧ b < W.heap.size := by
  intro b hb
  rcases h with ⟨_, h⟩ | ⟨b', h1, h2, h3⟩
  · rw [h] at hb; cases hb
  · rw [h1] at hb
    injection hb with hb
    injection hb with hb
    subst hb
    exact ⟨h2, h3.lt⟩
/-- The parameters' variables. -/
def MB (w W : World) (gd : Bool) (sd : ByteArray) (sh : Nat) : Prop := IVar W w.heap.size gd sd ∧ CVar W (w.heap.size + 1) (.int .i64 (sh : Int)) ∧ Below w.heap.size w W
theorem MB.keep {w W W1 : World} {gd : Bool} {sd : ByteArray} {sh : Nat} (h : MB w W gd sd sh) (hb : Below W.heap.size W W1) : MB w W1 gd sd sh := ⟨h.1.keep hb, h.2.1.keep hb, below_more h.2.2 (Nat.le_refl _) hb⟩
theorem MB.far {w W : World} {gd : Bool} {sd : ByteArray} {sh : Nat} (h : MB w W gd sd sh) {a : Addr} (ha : w.heap.size + 1 < a.block) (u : Value) : MB w (W.setCell a u) gd sd sh := ⟨h.1.far (by omega) u, h.2.1.far (by omega) u, h.2.2.setCell (by omega) u⟩
/-- The list's variable, too. -/
def MT (w W : World) (gd : Bool) (sd : ByteArray) (sh bl : Nat) (v : Value) : Prop := MB w W gd sd sh ∧ W.cell? ⟨bl, 0, none⟩ = some v ∧ W.frozen? ⟨bl, 0, none⟩ = false ∧ w.heap.size + 1 < bl
theorem MT.keep {w W W1 : World} {gd : Bool} {sd : ByteArray} {sh bl : Nat} {v : Value} (h : MT w W gd sd sh bl v) (hb : Below W.heap.size W W1) : MT w W1 gd sd sh bl v := ⟨h.1.keep hb, cell_keep h.2.1 hb, frozen_keep h.2.1 h.2.2.1 hb, h.2.2.2⟩
theorem MT.new {w W : World} {gd : Bool} {sd : ByteArray} {sh : Nat} (h : MB w W gd sd sh) (v : Value) (t : TypeId) : MT w (W.alloc (.cells #[v] t)) gd sd sh W.heap.size v := ⟨h.keep (below1 _ _), by simp [go_sem], by simp [go_sem], h.2.1.lt⟩
theorem MT.set {w W : World} {gd : Bool} {sd : ByteArray} {sh bl : Nat} {v : Value} (h : MT w W gd sd sh bl v) (u : Value) : MT w (W.setCell ⟨bl, 0, none⟩ u) gd sd sh bl u := ⟨h.1.far h.2.2.2 u, World.cell?_setCell_same _ _ _ h.2.1, by rw [World.frozen?_setCell]; exact h.2.2.1, h.2.2.2⟩
theorem MT.far {w W : World} {gd : Bool} {sd : ByteArray} {sh bl : Nat} {v : Value} (h : MT w W gd sd sh bl v) {a : Addr} (ha : w.heap.size + 1 < a.block) (hb : bl ≠ a.block) (u : Value) : MT w (W.setCell a u) gd sd sh bl v := ⟨h.1.far ha u, by rw [World.cell?_setCell_far _ _ _ _ (fun e => hb e.symm)]; exact h.2.1, by rw [World.frozen?_setCell]; exact h.2.2.1, h.2.2.2⟩
theorem MT.kept {w W W1 : World} {gd : Bool} {sd : ByteArray} {sh bl : Nat} {v : Value} {row : Option Nat} (h : MT w W gd sd sh bl v) (hg : W.grownBy W1 row) (hr : ∀ r, row = some r → w.heap.size ≤ r ∧ ∃ o : Obj, W.heap[r]? = some o ∧ o.isCells = false) : MT w W1 gd sd sh bl v :=
  ⟨⟨h.1.1.kept hg (fun r e => (hr r e).2), h.1.2.1.kept hg (fun r e => (hr r e).2), h.1.2.2.grown hg h.1.2.2.size (fun r e => (hr r e).1)⟩, cell_kept h.2.1 hg (fun r e => (hr r e).2), (frozen_kept h.2.1 hg (fun r e => (hr r e).2)).trans h.2.2.1, h.2.2.2⟩
/-- What some exponents of a list of terms have got, as many places up. -/
def gots {α : Type} {L : List Int} (sh : Nat) (pre : List (Tm L)) (f : Nat → α) (z : α) (i : Nat) : α := if i < sh then z else got pre f z (i - sh)
theorem gots_nil {α : Type} {L : List Int} (sh : Nat) (f : Nat → α) (z : α) : gots sh ([] : List (Tm L)) f z = fun _ => z := by
  funext i
  unfold gots
  rw [got_nil]
  split <;> rfl
theorem gots_snoc {α : Type} {L : List Int} (sh : Nat) (pre : List (Tm L)) (x : Tm L) (f : Nat → α) (z : α) : gots sh (pre ++ [x]) f z = upd2 (gots sh pre f z) (x.1 + sh) (f x.1) := by
  funext i
  unfold gots
  rw [got_snoc]
  unfold upd2
  show _ = if i = x.1 + sh then f x.1 else if i < sh then z else got pre f z (i - sh)
  by_cases h : i = x.1 + sh
  · subst h; rw [if_neg (by omega), if_pos (by omega), if_pos rfl]
  · rw [if_neg h]
    by_cases h2 : i < sh
    · rw [if_pos h2, if_pos h2]
    · rw [if_neg h2, if_neg h2]
      show (if i - sh = x.1 then f x.1 else got pre f z (i - sh)) = _
      rw [if_neg (by omega)]
set_option maxRecDepth 100000 in
set_option maxHeartbeats 6400000 in
theorem mulp_any (v1 v2 : Value) (L C : List Int) (d : Int) (sh k kk : Nat) (w : World) (h1 : PolyAt w v1 L k) (h2 : IsInt v2 d k) (hL : L.length ≤ 100000) (hsh : sh ≤ 100000) (hk : k ≤ 1000000) (hC : trm C = C) (hco : ∀ i, co C i = if i < sh then 0 else co L (i - sh) * d) :
    Calls Tryz.prog 96 #[v1, v2, .int .i64 (sh : Int)] w (PolyOut w C) := by
  have H1 := Lib.hid h1
  have H2 := Lib.hid h2
  have HO := Lib.hid (And.intro hC hco)
  obtain ⟨A, c, g, s, rfl, hcells⟩ := h1.cells
  have HCL := Lib.hid hcells
  obtain ⟨gd, sd, rfl, -⟩ := h2
  clear hco hC hcells
  obtain ⟨m, Hm⟩ : ∃ m : Int, Hid (((nbits d.natAbs : Nat) : Int) = m) := ⟨_, Lib.hid rfl⟩
  have X0 := IVar.new w gd sd 27
  have S0 := CVar.new (w.alloc (.cells #[.bool gd, .string sd] 27)) (.int .i64 (sh : Int)) 3
  rw [World.size_alloc] at S0
  have X0 := X0.keep (below1 _ (.cells #[.int .i64 (sh : Int)] 3))
  have B0 := below2 w (.cells #[.bool gd, .string sd] 27) (.cells #[.int .i64 (sh : Int)] 3)
  refine (callsIn_wide (n := 8)).1 ?_
  refine callsIn_of_wp_marks Tryz.func96 rfl trivial ?_ rfl
  simp only [Tryz.ntmps96, List.size_toArray, List.length_cons, List.length_nil, Nat.reduceAdd, Nat.reduceSub, Array.replicate_succ, Array.replicate_zero, List.push_toArray, List.append_toArray, List.nil_append, List.cons_append]
  by_cases hm : m = 0
  · have HN := Lib.hid (show C = [] by
      rw [← HO.out.1, trm_nil_iff]
      intro i
      rw [HO.out.2 i, nbits_zero.1 (Hm.out.trans hm)]
      split
      · rfl
      · exact Int.mul_zero _)
    subst hm
    gi_wp2_with (refine ⟨trivial, ?_⟩; gi_at_call 34; (with_reducible refine (callsIn_wide.2 (ibits_any _ _ k _ H2.out)).mono ?_); (rw [Hm.out]); rintro e W1 ⟨rfl, b1⟩; (have B1 := below_more B0 (Nat.le_refl _) b1))
    refine ⟨trivial, ?_⟩
    gi_wp2
    exact ⟨.slice none 0 0, by simp [results, Tryz.results96, go_sem], _, rfl, .inl ⟨rfl, HN.out⟩, B1⟩
  · have hmb : (m == 0) = false := beq_eq_false_iff_ne.2 hm
    have HD := Lib.hid (show d ≠ 0 from fun h => hm (by rw [← Hm.out]; exact nbits_zero.2 h))
    clear hm
    by_cases hL0 : trm L = []
    · have HN := Lib.hid (show C = [] by
        rw [← HO.out.1, trm_nil_iff]
        intro i
        rw [HO.out.2 i, (trm_nil_iff L).1 hL0]
        split
        · rfl
        · exact Int.zero_mul _)
      have hdg : degZ L = -1 := by unfold degZ; rw [hL0]; rfl
      clear hL0
      gi_wp2_with (refine ⟨trivial, ?_⟩; first
        | (gi_at_call 34; (with_reducible refine (callsIn_wide.2 (ibits_any _ _ k _ H2.out)).mono ?_); (rw [Hm.out]); rintro e W1 ⟨rfl, b1⟩; (have B1 := below_more B0 (Nat.le_refl _) b1))
        | (gi_at_call 10; (with_reducible refine (callsIn_wide.2 (deg_any _ L k _ (H1.out.keep2 B1) (by omega))).mono ?_); (rw [hdg]); rintro e W2 ⟨rfl, b2⟩; (have B2 := below_more B1 (Nat.le_refl _) b2)))
      exact ⟨.slice none 0 0, by simp [results, Tryz.results96, go_sem], _, rfl, .inl ⟨rfl, HN.out⟩, B2⟩
    · obtain ⟨n0, hn0⟩ : ∃ n0, (trm L).length = n0 + 1 := ⟨(trm L).length - 1, by have := List.length_pos_iff.2 hL0; omega⟩
      have hdg : degZ L = (n0 : Int) := by unfold degZ; rw [hn0]; omega
      have hn1 : n0 ≤ 100000 := by have := trm_len L; omega
      have i0 : ¬ (n0 : Int) < 0 := by omega
      have HN0 := Lib.hid hn0
      clear hL0 hn0
      gi_wp2_with (refine ⟨trivial, ?_⟩; first
        | (gi_at_call 34; (with_reducible refine (callsIn_wide.2 (ibits_any _ _ k _ H2.out)).mono ?_); (rw [Hm.out]); rintro e W1 ⟨rfl, b1⟩; (have B1 := below_more B0 (Nat.le_refl _) b1); (have X1 := X0.keep b1); (have S1 := S0.keep b1))
        | (gi_at_call 10; (with_reducible refine (callsIn_wide.2 (deg_any _ L k _ (H1.out.keep2 B1) (by omega))).mono ?_); (rw [hdg]); rintro e W2 ⟨rfl, b2⟩; (have B2 := below_more B1 (Nat.le_refl _) b2); (have X2 := X1.keep b2); (have S2 := S1.keep b2)))
      have hw : IntKind.i64.wrap ((n0 : Int) + (sh : Int)) = ((n0 + sh : Nat) : Int) := by rw [IntKind.wrap_i64]; omega
      obtain ⟨n1, hn1'⟩ : ∃ n1, n1 = n0 + sh := ⟨_, rfl⟩
      have HN1 := Lib.hid hn1'
      have hn2 : n1 ≤ 200000 := by omega
      rw [← hn1'] at hw
      obtain ⟨N, hNa, hNb⟩ : ∃ N, N ≤ n1 + 1 ∧ n1 + 1 ≤ N := ⟨n1 + 1, Nat.le_refl _, Nat.le_refl _⟩
      have KB : MB w W2 gd sd sh := ⟨X2, S2, B2⟩
      clear X0 X1 X2 S0 S1 S2 B0 B1 b1 b2 hn1'
      have q1 := KB.2.1
      refine wpIn_wide.2 ?_
      go_cut [7] from 18 to 22 (fun s7 wx => ∃ (bl : Nat) (A0 : Option Addr), s7 = .pointer (some ⟨bl, 0, none⟩) ∧ MT w wx gd sd sh bl (.slice A0 N N) ∧ OwnRow wx (w.heap.size + 2) A0 N (fun _ => false) (fun _ => ⟨#[]⟩) ∧ (∀ b, A0 = some ⟨b, 0, none⟩ → b ≠ bl))
      case first =>
        have KB := KB.keep (Below.refl _ _).drew
        clear q1 B2
        have q1 := KB.2.1
        go_region_held3 (fun W => W.cell? ⟨w.heap.size + 1, 0, none⟩ = some (.int .i64 (sh : Int))) (first | (with_reducible exact q1) | exact KB.2.1 | exact (KB.keep (below1 _ _)).2.1 | (with_reducible exact (MT.set KT _).1.2.1) | exact (MT.set KT _).1.2.1 | go_keep)
          (first
            | (go_at_call 10; (first | (refine (deg_any _ L k _ (H1.out.keep2 KB.2.2) (by omega)).mono ?_) | (refine (deg_any _ L k _ (H1.out.keep2 (MB.keep KB (below1 _ _)).2.2) (by omega)).mono ?_)); (rw [hdg]); rintro e X ⟨rfl, bX⟩; (first | ((with_reducible (have KT1 := MT.keep KT bX; have KB1 := MB.keep KB bX)); have KT := KT1; have KB := KB1; obtain ⟨-, v1, v2, v3⟩ := id KT) | (with_reducible have KB1 := MB.keep KB bX; have KB := KB1) | (have KT := MT.keep (MT.new KB _ _) bX; (try simp only [World.size_drew] at KT); have KB := KT.1; obtain ⟨-, v1, v2, v3⟩ := id KT)))
            | (go_at_call 41; refine (blank_row _ N _ (by omega) (by omega) (by omega)).mono ?_; rintro e X ⟨A0, rfl, R, bX⟩; (have hlt := KB.2.1.lt); (have R1 := R.wider (show w.heap.size + 2 ≤ _ by (try simp only [World.size_alloc]); omega)); (first | (have hbl := World.block_lt_of_cell? _ ⟨_, 0, none⟩ v1) | skip); (first | ((with_reducible (have KT1 := MT.keep KT bX; have KB1 := MB.keep KB bX)); have KT := KT1; have KB := KB1; obtain ⟨-, v1, v2, v3⟩ := id KT) | (with_reducible have KB1 := MB.keep KB bX; have KB := KB1) | (have KT := MT.keep (MT.new KB _ _) bX; (try simp only [World.size_drew] at KT); have KB := KT.1; obtain ⟨-, v1, v2, v3⟩ := id KT))))
        all_goals go_wp2_with fail
        all_goals go_meet
        all_goals first
          | exact ⟨_, A0, rfl, MT.new KB _ _, R1.keep (below1 _ _), fun b hb => Nat.ne_of_lt (R.lt b hb).2⟩
          | (refine ⟨_, A0, rfl, MT.set KT _, R1.far (fun b hb => ?_) _, fun b hb => ?_⟩ <;> (have h1 := (R.lt b hb).1; (try simp only [World.size_alloc] at h1); (try dsimp only); omega))
      case rest =>
        obtain ⟨bl, A0, rfl, KT, R, hne⟩ := hcut
        clear KB q1
        gi_wp2_with (refine ⟨trivial, ?_⟩; gi_at_call 46; (with_reducible refine (callsIn_wide.2 (terms_any A L.length c _)).mono ?_); rintro e W3 ⟨rfl, rfl⟩)
        have K4 := KT.keep (below1 wc (.cells #[.slice A L.length c] 22))
        have R4 := R.keep (below1 wc (.cells #[.slice A L.length c] 22))
        have T4 := CVar.new wc (.slice A L.length c) 22
        have hbl := World.block_lt_of_cell? wc ⟨bl, 0, none⟩ KT.2.1
        have hlt := KT.2.2.2
        have HA := Lib.hid R.lt
        have HE := Lib.hid hne
        clear KT R hne
        generalize wc.alloc (.cells #[.slice A L.length c] 22) = W4 at *
        generalize wc.heap.size = bt at *
        have B4 := K4.1.2.2
        have C4 := HCL.out.keep B4
        have hT := T4.lt
        dsimp only at hbl
        have hm0 := Lib.hid (show ∀ j, co L j = 0 → co L j * d = 0 from fun j h => by rw [h]; exact Int.zero_mul _)
        have HR0 := Lib.hid (show OwnRow W4 (w.heap.size + 2) A0 N (gots sh ([] : List (Tm L)) (fun j => sg (co L j * d)) false) (gots sh ([] : List (Tm L)) (fun j => mg (co L j * d)) ⟨#[]⟩) by rw [gots_nil, gots_nil]; exact R4)
        refine wpIn_rangeFunc_ownH rfl (by omega) (gf := 83) (lb := #[.pointer (some ⟨bt, 0, none⟩)]) rfl trivial (enters_of Tryz.func83 (by kernel_rfl) rfl)
          (terms_stops _ bt w.heap.size c k A L g s W4 (by omega) (by omega) T4 B4.size C4) (fun h h' => h.trans h') (Kt.turn B4.size hT) (Below.refl _ _) (fun _ => rfl)
          (fun pre W => MT w W gd sd sh bl (.slice A0 N N) ∧ OwnRow W (w.heap.size + 2) A0 N (gots sh pre (fun j => sg (co L j * d)) false) (gots sh pre (fun j => mg (co L j * d)) ⟨#[]⟩) ∧ CVar W bt (.slice A L.length c))
          (fun _ _ _ => False)
          (fun pre X Y row hs hg hr => ⟨hs.1.kept hg (fun r e => ⟨Nat.le_trans B4.size (hr r e).1, (hr r e).2⟩), hs.2.1.kept hg (fun r e => (hr r e).2), hs.2.2.kept hg (fun r e => (hr r e).2)⟩)
          (fun _ _ _ _ _ hs _ _ => hs)
          ⟨K4, HR0.out, T4⟩
          (fun x a' W => ∃ Bx, bt < Bx ∧ IVar W Bx (g x.1) (s x.1) ∧ a' = { tmps := #[.slice A L.length c, .agg #[.bool gd, .string sd], .int .i64 (sh : Int), undef, .pointer (some ⟨w.heap.size, 0, none⟩), .pointer (some ⟨w.heap.size + 1, 0, none⟩), .slice none 0 0, .pointer (some ⟨bl, 0, none⟩), .int .i64 (x.1 : Int), .pointer (some ⟨Bx, 0, none⟩), .agg #[.bool gd, .string sd], .int .i64 m, .bool false, .bool false, .slice A L.length c, .int .i64 (n0 : Int), .bool (decide ((n0 : Int) < 0)), .bool (decide ((n0 : Int) < 0)), u18, u19, u20, u21, u22, .slice A L.length c, .func (.func 83) #[] #[.pointer (some ⟨bt, 0, none⟩)], .int .i64 (x.1 : Int), .agg #[.bool (g x.1), .string (s x.1)], undef, undef, undef, undef, undef, undef, undef, undef, undef], defers := [] })
          (fun x a' _ X Y row hs hg hr => by
            obtain ⟨Bx, h1, h2, h3⟩ := hs
            exact ⟨Bx, h1, h2.kept hg (fun r e => (hr r e).2), h3⟩)
          ?assign ?body ?done ?stop
        case assign =>
          rintro l pre x W K ⟨i1, i2, i3⟩ hK
          have hKK := Lib.hid hK
          clear hK
          gi_wp2
          exact hKK.out _ _ ((KeepsOthers.alloc _ _).from _) (Kt.of_below (below1 W _) i1.1.2.2.size i3.lt) ⟨i1.keep (below1 W _), i2.keep (below1 W _), i3.keep (below1 W _)⟩ ⟨W.heap.size, i3.lt, IVar.new W _ _ _, rfl⟩
        case body =>
          rintro l pre x a' W hl ⟨r, hr⟩ ⟨i1, i2, i3⟩ ⟨Bx, hBx, bX, rfl⟩ hlt'
          have hxL : x.1 < L.length := by have := trm_len L; have := x.lt; omega
          have hxn := x.lt
          obtain ⟨e1, hea, heb⟩ : ∃ e1, e1 ≤ x.1 + sh ∧ x.1 + sh ≤ e1 := ⟨x.1 + sh, Nat.le_refl _, Nat.le_refl _⟩
          have he1 : e1 < N := by have := HN0.out; have := HN1.out; omega
          rcases i2 with ⟨h0, -⟩ | ⟨b0, rfl, hb0, P⟩
          · omega
          obtain ⟨hb1, hb2⟩ := HA.out b0 rfl
          have hb3 := HE.out b0 rfl
          obtain ⟨-, -, -, -, -, hI⟩ := HCL.out x.1 hxL
          have HI := Lib.hid hI
          obtain ⟨z, Ez⟩ : ∃ z, Hid (co L x.1 * d = z) := ⟨_, Lib.hid rfl⟩
          obtain ⟨⟨⟨x1, x2⟩, x3, -⟩, x5, -, -⟩ := id i1
          obtain ⟨x6, x7⟩ := id bX
          have hxi : (e1 : Int) < (N : Int) := by omega
          have hx0 : (0 : Int) ≤ (e1 : Int) := by omega
          have hxw : IntKind.i64.wrap ((x.1 : Int) + (sh : Int)) = (e1 : Int) := by rw [IntKind.wrap_i64]; omega
          clear hI
          gi_wp2
          refine region_in_round (S := (fun W' => W'.cell? ⟨w.heap.size, 0, none⟩ = some (.bool gd) ∧ W'.cell? ⟨w.heap.size, 1, none⟩ = some (.string sd) ∧ W'.cell? ⟨w.heap.size + 1, 0, none⟩ = some (.int .i64 (sh : Int)) ∧ W'.cell? ⟨bl, 0, none⟩ = some (.slice (some ⟨b0, 0, none⟩) N N) ∧ W'.cell? ⟨Bx, 0, none⟩ = some (.bool (g x.1)) ∧ W'.cell? ⟨Bx, 1, none⟩ = some (.string (s x.1)))) (by kernel_rfl) (all_plain (by kernel_rfl)) (by rintro ⟨_, _, h⟩; exact h) ?_ (fun hHeld => ?_)
          · exact ⟨x1, x2, x3, x5, x6, x7⟩
          refine wpAnyH_take (i := 0) (v := ?_) rfl (by kernel_rfl) (by kernel_rfl) (by kernel_rfl) (fun _ _ _ h => h) (Or.inl ⟨by rfl, ?_⟩) (by assumption) ?_
          rotate_left
          · intro w hSw
            (try dsimp only at hSw)
            go_simp
            all_goals with_reducible rfl
          (try simp only [Act.put, List.setIfInBounds_toArray, List.set_cons_zero, List.set_cons_succ])
          refine wpAnyH_take (i := 1) (v := ?_) rfl (by kernel_rfl) (by kernel_rfl) (by kernel_rfl) (fun _ _ _ h => h) (Or.inl ⟨by rfl, ?_⟩) (by assumption) ?_
          rotate_left
          · intro w hSw
            (try dsimp only at hSw)
            go_simp
            all_goals with_reducible rfl
          (try simp only [Act.put, List.setIfInBounds_toArray, List.set_cons_zero, List.set_cons_succ])
          refine wpAnyH_take (i := 2) (v := ?_) rfl (by kernel_rfl) (by kernel_rfl) (by kernel_rfl) (fun _ _ _ h => h) (Or.inl ⟨by rfl, ?_⟩) (by assumption) ?_
          rotate_left
          · intro w hSw
            (try dsimp only at hSw)
            go_simp
            all_goals with_reducible rfl
          (try simp only [Act.put, List.setIfInBounds_toArray, List.set_cons_zero, List.set_cons_succ])
          refine wpAnyH_take (i := 3) (v := ?_) rfl (by kernel_rfl) (by kernel_rfl) (by kernel_rfl) (fun _ _ _ h => h) (Or.inl ⟨by rfl, ?_⟩) (by assumption) ?_
          rotate_left
          · intro w hSw
            (try dsimp only at hSw)
            go_simp
            all_goals with_reducible rfl
          (try simp only [Act.put, List.setIfInBounds_toArray, List.set_cons_zero, List.set_cons_succ])
          refine wpAnyH_take (i := 4) (v := ?_) rfl (by kernel_rfl) (by kernel_rfl) (by kernel_rfl) (fun _ _ _ h => h) (Or.inl ⟨by rfl, ?_⟩) (by assumption) ?_
          rotate_left
          · intro w hSw
            (try dsimp only at hSw)
            go_simp
            all_goals with_reducible rfl
          (try simp only [Act.put, List.setIfInBounds_toArray, List.set_cons_zero, List.set_cons_succ])
          refine wpAnyH_take (i := 5) (v := ?_) rfl (by kernel_rfl) (by kernel_rfl) (by kernel_rfl) (fun _ _ _ h => h) (Or.inl ⟨by rfl, ?_⟩) (by assumption) ?_
          rotate_left
          · intro w hSw
            (try dsimp only at hSw)
            go_simp
            all_goals with_reducible rfl
          (try simp only [Act.put, List.setIfInBounds_toArray, List.set_cons_zero, List.set_cons_succ])
          refine wpAnyH_ready (rs := [6]) (by kernel_rfl) (by simp) ?_
          refine AllReadyH.cons rfl (fun K hK => ?_) AllReadyH.nil
          go_simp
          go_at_call 42; refine (imul_eq HI.out H2.out Ez.out).mono ?_; rintro e W5 ⟨rfl, b5⟩; have b5 := below_more (Below.refl W.heap.size W).drew (Nat.le_refl _) b5; have P5 := P.keep b5; obtain ⟨p1, p2, p3, p4⟩ := P5.cell he1; have M5 := i1.keep b5; have X5 := bX.keep b5; have T5 := i3.keep b5
          go_wp2_with fail
          refine hK.out _ _ ?_ (fun hHeld => ?_)
          · (try dsimp only)
            exact ⟨M5.1.1.1, M5.1.1.2, M5.1.2.1, M5.2.1, X5.1, X5.2⟩
          clear hK K
          (try simp only [Act.put, List.setIfInBounds_toArray, List.set_cons_zero, List.set_cons_succ])
          refine wpAnyH_take (i := 7) (v := ?_) rfl (by kernel_rfl) (by kernel_rfl) (by kernel_rfl) (fun _ _ _ h => h) (Or.inl ⟨by rfl, ?_⟩) (by assumption) ?_
          rotate_left
          · intro w hSw
            (try dsimp only at hSw)
            go_simp
            all_goals with_reducible rfl
          (try simp only [Act.put, List.setIfInBounds_toArray, List.set_cons_zero, List.set_cons_succ])
          refine wpAnyH_ready (rs := [8]) (by kernel_rfl) (by simp) ?_
          refine AllReadyH.cons rfl (fun K hK => ?_) AllReadyH.nil
          go_simp
          refine hK.out _ _ ?_ (fun hHeld => ?_)
          · (try dsimp only)
            exact ⟨(((M5).far (a := ⟨b0, e1 * 2, none⟩) (by dsimp only; omega) (by dsimp only; omega) _).far (a := ⟨b0, e1 * 2 + 1, none⟩) (by dsimp only; omega) (by dsimp only; omega) _).1.1.1, (((M5).far (a := ⟨b0, e1 * 2, none⟩) (by dsimp only; omega) (by dsimp only; omega) _).far (a := ⟨b0, e1 * 2 + 1, none⟩) (by dsimp only; omega) (by dsimp only; omega) _).1.1.2, (((M5).far (a := ⟨b0, e1 * 2, none⟩) (by dsimp only; omega) (by dsimp only; omega) _).far (a := ⟨b0, e1 * 2 + 1, none⟩) (by dsimp only; omega) (by dsimp only; omega) _).1.2.1, (((M5).far (a := ⟨b0, e1 * 2, none⟩) (by dsimp only; omega) (by dsimp only; omega) _).far (a := ⟨b0, e1 * 2 + 1, none⟩) (by dsimp only; omega) (by dsimp only; omega) _).2.1, (((X5).far (a := ⟨b0, e1 * 2, none⟩) (by dsimp only; omega) _).far (a := ⟨b0, e1 * 2 + 1, none⟩) (by dsimp only; omega) _).1, (((X5).far (a := ⟨b0, e1 * 2, none⟩) (by dsimp only; omega) _).far (a := ⟨b0, e1 * 2 + 1, none⟩) (by dsimp only; omega) _).2⟩
          clear hK K
          (try simp only [Act.put, List.setIfInBounds_toArray, List.set_cons_zero, List.set_cons_succ])
          refine wpAnyH_done (by kernel_rfl) ?_ _
          have HS := Lib.hid (P5.set e1 (sg z) (mg z))
          have hee : x.1 + sh = e1 := by omega
          refine (show KeepsFrom W4.heap.size W _ ∧ Kt w.heap.size bt W _ ∧ _ from ⟨((others_of_below b5).trans ((KeepsOthers.setCell _ _ _).trans (KeepsOthers.setCell _ _ _))).from _, ((Kt.of_below b5 i1.1.2.2.size i3.lt).set (a := ⟨b0, e1 * 2, none⟩) (by dsimp only; omega) (by dsimp only; omega) _).set (a := ⟨b0, e1 * 2 + 1, none⟩) (by dsimp only; omega) (by dsimp only; omega) _, ((i1.keep b5).far (a := ⟨b0, e1 * 2, none⟩) (by dsimp only; omega) (by dsimp only; omega) _).far (a := ⟨b0, e1 * 2 + 1, none⟩) (by dsimp only; omega) (by dsimp only; omega) _, .inr ⟨b0, rfl, hb0, ?_⟩, ((i3.keep b5).far (a := ⟨b0, e1 * 2, none⟩) (by dsimp only; omega) _).far (a := ⟨b0, e1 * 2 + 1, none⟩) (by dsimp only; omega) _⟩)
          rw [gots_snoc, gots_snoc]
          show PRow _ b0 N (upd2 _ (x.1 + sh) (sg (co L x.1 * d))) (upd2 _ (x.1 + sh) (mg (co L x.1 * d)))
          rw [Ez.out, hee]
          exact HS.out
        case done =>
          rintro D xs W hD rfl ⟨i1, i2, i3⟩ hK
          have x5 := i1.2.1
          gi_wp2
          refine ⟨by simp, .inl ⟨_, _, rfl, run_takeDeferred hK, ?_⟩⟩
          have R5 := (i2.wider (show w.heap.size ≤ w.heap.size + 2 by omega)).kept (grownBy_putObj' W D (.deferred none)) (fun r e => by cases e; exact ⟨_, hK, rfl⟩)
          have B5 := below_put i1.1.2.2 D (Nat.le_trans B4.size hD) (.deferred none)
          have hCl : C.length = N := by
            have h1 : (trm C).length = n1 + 1 := by
              refine trm_len_of (fun i hi => ?_) (.inr ?_)
              · have := HN1.out
                have := HN0.out
                rw [HO.out.2 i, if_neg (by omega), trm_above L (by omega)]
                exact Int.zero_mul _
              · rw [Nat.add_sub_cancel, HO.out.2 n1, if_neg (by have := HN1.out; omega), show n1 - sh = n0 by have := HN1.out; omega]
                exact Int.mul_ne_zero (trm_last L HN0.out) HD.out
            rw [HO.out.1] at h1
            omega
          exact ⟨.slice A0 N N, by simp [results, Tryz.results96, go_sem], _, rfl, R5.poly hCl (fun i hi => by
            rw [HO.out.2 i]
            unfold gots
            split
            · exact ⟨sg_zero.symm, mg_zero.symm⟩
            · rw [got_all _ _ (fun j hj => by rw [hm0.out j hj]; exact sg_zero), got_all _ _ (fun j hj => by rw [hm0.out j hj]; exact mg_zero)]
              exact ⟨rfl, rfl⟩), B5⟩
        case stop =>
          rintro D cc pre W _ _ h _
          exact h.elim
end Go.Proofs.YtgcogpfmhmmgdaaGreatDoor
