/- Lists of canonical integers: how the laws make them, and how they are compared. Condition: at most 10^5 of them. slices.Equal of two lists of canonical integers that are equal. groovelaw03.awake: the calls' contracts at its examples. -/
import Derived.Test.YtgcogpfmhmmgdaaGreatDoorQ30
import Derived.Test.YtgcogpfmhmmgdaaGreatDoorQ31
import Derived.Maps.AppendAt
import Derived.Deep.QuietTactic
import Derived.BigQuiet
import Derived.Test.YtgcogpfmhmmgdaaGreatDoorQ15

namespace Go.Proofs.YtgcogpfmhmmgdaaGreatDoor
open Go.RowKit Go.Shelf
set_option linter.unusedSimpArgs false
set_option linter.unusedVariables false

/-- A list of canonical integers that can be read in memory. -/
def PolyS (W : World) (v : Value) (L : List Int) : Prop :=
  ∃ (A : Option Addr) (c : Nat), v = .slice A L.length c ∧ L.length ≤ c ∧ ∀ i, i < L.length → ∃ b, A = some ⟨b, 0, none⟩ ∧ W.cell? ⟨b, i * 2, none⟩ = some (.bool (sg (co L i))) ∧ W.cell? ⟨b, i * 2 + 1, none⟩ = some (.string (mg (co L i)))
theorem PolyS.keep {W W1 : World} {v : Value} {L : List Int} (h : PolyS W v L) (hb : Below W.heap.size W W1) : PolyS W1 v L := by
  obtain ⟨A, c, h1, h2, h3⟩ := h
  refine ⟨A, c, h1, h2, fun i hi => ?_⟩
  obtain ⟨b, k1, k2, k3⟩ := h3 i hi
  exact ⟨b, k1, cell_keep k2 hb, cell_keep k3 hb⟩
theorem PolyC.polyS {W : World} {base : Nat} {v : Value} {L : List Int} (h : PolyC W base v L) : PolyS W v L := by
  rcases h with ⟨rfl, rfl⟩ | ⟨b, n, c, rfl, h1, h2, h3, g, s, h4, h5⟩
  · exact ⟨none, 0, rfl, Nat.le_refl _, fun i hi => absurd hi (Nat.not_lt_zero _)⟩
  · refine ⟨_, c, rfl, h2, fun i hi => ⟨b, rfl, ?_⟩⟩
    obtain ⟨k1, k2, -⟩ := h4.cell (i := i) (by omega)
    obtain ⟨e1, e2⟩ := h5 i hi
    rw [e1] at k1
    rw [e2] at k2
    exact ⟨k1, k2⟩
theorem PolyS.at {W : World} {v : Value} {L : List Int} {k : Nat} (h : PolyS W v L) (hk : k ≤ 10000000) (hb : PB L k) : PolyAt W v L k := by
  obtain ⟨A, c, h1, h2, h3⟩ := h
  refine ⟨A, c, fun i => sg (co L i), fun i => mg (co L i), h1, h2, fun i hi => ?_⟩
  obtain ⟨b, k1, k2, k3⟩ := h3 i hi
  have e : (⟨b, 0, none⟩ : Addr).add (i * 2) = ⟨b, i * 2, none⟩ := by unfold Addr.add; split <;> simp_all
  exact ⟨⟨b, 0, none⟩, k1, by rw [e]; exact k2, by rw [e]; exact k3, isInt_mg (hb i) hk⟩
/-- The cells of a list. -/
def pcl (L : List Int) : List Value := L.flatMap fun z => [.bool (sg z), .string (mg z)]
theorem pcl_snoc (L : List Int) (z : Int) : pcl (L ++ [z]) = pcl L ++ [.bool (sg z), .string (mg z)] := by unfold pcl; rw [List.flatMap_append]; rfl
theorem pcl_at (L : List Int) : ∀ i, i < L.length → (pcl L)[i * 2]? = some (.bool (sg (co L i))) ∧ (pcl L)[i * 2 + 1]? = some (.string (mg (co L i))) := by
  induction L with
  | nil => intro i hi; exact absurd hi (Nat.not_lt_zero _)
  | cons x L ih =>
    intro i hi
    cases i with
    | zero => exact ⟨rfl, rfl⟩
    | succ i =>
      have := ih i (by simpa using hi)
      rw [co_consS, show (i + 1) * 2 = i * 2 + 1 + 1 by omega]
      exact this
theorem own_polyS {W : World} {B : Nat} {v : Value} {L : List Int} (h : W.ownsRow B 27 2 v L.length (pcl L)) : PolyS W v L := by
  rcases Nat.eq_zero_or_pos L.length with h0 | h0
  · have := List.eq_nil_of_length_eq_zero h0
    subst this
    rcases h.2 with ⟨h1, h2⟩ | ⟨g, cap, cur, h1, _⟩
    · exact ⟨none, 0, by rw [h1]; rfl, Nat.le_refl _, fun i hi => absurd hi (Nat.not_lt_zero _)⟩
    · exact ⟨_, cap, h1, Nat.zero_le _, fun i hi => absurd hi (Nat.not_lt_zero _)⟩
  · rcases h.2 with ⟨_, h2⟩ | ⟨g, cap, cur, rfl, h3, h4, h5, _⟩
    · omega
    · refine ⟨_, cap, rfl, by omega, fun i hi => ⟨g, rfl, ?_⟩⟩
      obtain ⟨k1, k2⟩ := pcl_at L i hi
      exact ⟨(h.cellAt (i * 2) (by omega)).trans k1, (h.cellAt (i * 2 + 1) (by omega)).trans k2⟩
theorem cell_two_new (w : World) (x y : Value) (t : TypeId) : ∀ j u, [x, y][j]? = some u → (w.alloc (.cells #[x, y] t)).cell? ((⟨w.heap.size, 0, none⟩ : Addr).add j) = some u := by
  intro j u hj
  match j, hj with
  | 0, hj =>
    simp at hj
    subst hj
    simp [Addr.add]
  | 1, hj =>
    simp at hj
    subst hj
    simp [Addr.add]
theorem own_sliceQ {W : World} {B t k n : Nat} {v : Value} {xs : List Value} (h : W.ownsRow B t k v n xs) : ∃ a c, v = .slice a n c := by
  rcases h.2 with ⟨h1, h2⟩ | ⟨g, cap, cur, h1, _⟩
  · exact ⟨none, 0, by rw [h1, h2]⟩
  · exact ⟨_, _, h1⟩
theorem grown_noneQ {w w' : World} (h : Below w.heap.size w w') : w.grownBy w' none := ⟨h.os, h.tape, h.output, h.size, fun k hk _ => h.block k hk⟩
set_option maxRecDepth 100000 in
set_option maxHeartbeats 3200000 in
theorem of_any (b n c : Nat) (L : List Int) (w : World) (hn : L.length = n) (hL : n ≤ 1000) (hb : ∀ i, i < n → -9223372036854775808 ≤ co L i ∧ co L i ≤ 9223372036854775807)
    (hc : ∀ i, i < n → w.cell? ⟨b, i, none⟩ = some (.int .i64 (co L i))) :
    Calls Tryz.prog 30 #[.slice (some ⟨b, 0, none⟩) n c] w fun e w' => ∃ v, e = .returned v ∧ PolyS w' v L ∧ Below w.heap.size w w' := by
  obtain ⟨i0, hi, hz0, hz1, hz2⟩ := info_parts infoI
  have HC := Lib.hid hc
  have HB := Lib.hid hb
  clear hc hb
  go_enter Tryz.func30, Tryz.ntmps30
  go_wp2_with fail
  go_loopg [3, 8] n (fun q s3 s8 wx => ∃ i : Nat, i + q = n ∧ s8 = .int .i64 (i : Int) ∧ (∃ a c, s3 = .slice a i c) ∧ wx.ownsRow w.heap.size 27 2 s3 i (pcl (L.take i)) ∧ Below w.heap.size w wx)
  case atStart => exact ⟨0, by omega, rfl, ⟨none, 0, rfl⟩, World.ownsRow_nil _ _ _ _, Below.refl _ _⟩
  case round =>
    obtain ⟨i, hin, rfl, ⟨a, c3, rfl⟩, hown, hbw⟩ := hrel
    rcases gk with _ | q
    · obtain rfl : i = n := by omega
      have hP := Lib.hid (show PolyS wr (.slice a i c3) L from own_polyS (B := w.heap.size) (by rw [hn]; rw [← hn, List.take_length] at hown; rw [hn] at hown; exact hown))
      clear hown
      go_wp2
      go_ret
      exact ⟨_, rfl, hP.out, hbw⟩
    · have hcell := cell_keep (HC.out i (by omega)) hbw
      obtain ⟨b1, b2⟩ := HB.out i (by omega)
      have hsn := Lib.hid (show L.take (i + 1) = L.take i ++ [co L i] by rw [List.take_add_one, co_get (by omega)]; rfl)
      obtain ⟨z, hz⟩ : ∃ z, co L i = z := ⟨_, rfl⟩
      rw [hz] at hcell b1 b2 hsn
      have HO := Lib.hid (fun W => iof_any z W b1 b2)
      have hlt := hown.lt
      clear hz
      go_wp2_with (first
        | (go_at_call 43; (with_reducible refine (HO.out _).mono ?_); rintro e W1 ⟨rfl, b1'⟩; (have hown1 := hown.kept (grown_noneQ b1') (by cases (Value.slice a i c3).ownBlock <;> simp)); (have hlt1 := hown1.lt); (have hbw1 := below_more hbw (Nat.le_refl _) b1'); (have hbs := hbw1.size))
        | (at_builtin; refine wpList_append_own_at _ rfl _ _ 22 rfl w.heap.size 27 i0 (.agg #[.bool false, .string ⟨#[]⟩]) 2 24 Tryz.underlying22 hi hz0 hz1 hz2 rfl (by decide) _ _ _ rfl (hown1.alloc _) ⟨W1.heap.size, 0, none⟩ 1 1 [.bool (sg z), .string (mg z)] rfl rfl ?c1 ?c2 ?c3 ?c4 ?c5 ?_))
      case c1 => exact cell_two_new _ _ _ _
      case c2 => intro u hu; simp at hu; rcases hu with rfl | rfl <;> rfl
      case c3 => unfold maxLen; omega
      case c4 => omega
      case c5 => rw [World.size_alloc]; omega
      intro v' W2 hown2 hgrow _ hv'
      have hb2 : Below w.heap.size w W2 := (hbw1.alloc hbs _).grown hgrow (by rw [World.size_alloc]; omega) (fun k hk => (hlt1 k hk).1)
      rw [← pcl_snoc, ← hsn.out] at hown2
      obtain ⟨a', c', rfl⟩ := own_sliceQ hown2
      clear hown hown1 hgrow hlt hlt1 hv' hbw hbw1
      go_wp2
      go_roundg q
      case measure => omega
      case rel => exact ⟨i + 1, by omega, rfl, ⟨a', c', rfl⟩, hown2, hb2⟩
end Go.Proofs.YtgcogpfmhmmgdaaGreatDoor

namespace Go.Proofs.YtgcogpfmhmmgdaaGreatDoor
open Go.RowKit Go.Shelf
set_option linter.unusedSimpArgs false
set_option linter.unusedVariables false

theorem PolyS.slice {W : World} {v : Value} {L : List Int} (h : PolyS W v L) : ∃ A c, v = .slice A L.length c := by
  obtain ⟨A, c, h1, -⟩ := h
  exact ⟨A, c, h1⟩
theorem PolyS.get {W : World} {A : Option Addr} {n c : Nat} {L : List Int} (h : PolyS W (.slice A n c) L) {i : Nat} (hi : i < L.length) : ∃ b, A = some ⟨b, 0, none⟩ ∧ W.cell? ⟨b, i * 2, none⟩ = some (.bool (sg (co L i))) ∧ W.cell? ⟨b, i * 2 + 1, none⟩ = some (.string (mg (co L i))) := by
  obtain ⟨A', c', h1, h2, h3⟩ := h
  injection h1 with e1 e2 e3
  subst e1
  exact h3 i hi
set_option maxRecDepth 100000 in
set_option maxHeartbeats 3200000 in
theorem equalP_any {W : World} {v v' : Value} {L : List Int} (h : PolyS W v L) (h' : PolyS W v' L) (hl : L.length ≤ 1000000) :
    Calls Tryz.prog 7 #[v, v'] W fun e W' => e = .returned (.bool true) ∧ Below W.heap.size W W' := by
  obtain ⟨A, c, rfl⟩ := h.slice
  obtain ⟨A', c', rfl⟩ := h'.slice
  have H := Lib.hid h
  have H' := Lib.hid h'
  obtain ⟨n, hn⟩ : ∃ n, L.length = n := ⟨_, rfl⟩
  rw [hn] at hl H H' ⊢
  clear h h'
  go_enter Tryz.func7, Tryz.ntmps7
  go_wp2_with fail
  go_loopg [13] n (fun q s13 wx => ∃ i : Nat, i + q = n ∧ s13 = .int .i64 (i : Int) ∧ Below W.heap.size W wx)
  case atStart => exact ⟨0, by omega, rfl, Below.refl _ _⟩
  case round =>
    obtain ⟨i, hin, rfl, hbw⟩ := hrel
    rcases gk with _ | q
    · obtain rfl : i = n := by omega
      go_wp2
      go_ret
      exact ⟨rfl, hbw⟩
    · obtain ⟨b, rfl, k1, k2⟩ := H.out.get (i := i) (by omega)
      obtain ⟨b', rfl, k3, k4⟩ := H'.out.get (i := i) (by omega)
      have c1 := cell_keep k1 hbw
      have c2 := cell_keep k2 hbw
      have c3 := cell_keep k3 hbw
      have c4 := cell_keep k4 hbw
      obtain ⟨x, hx⟩ : ∃ x, sg (co L i) = x := ⟨_, rfl⟩
      obtain ⟨y, hy⟩ : ∃ y, mg (co L i) = y := ⟨_, rfl⟩
      rw [hx] at c1 c3
      rw [hy] at c2 c4
      clear k1 k2 k3 k4 hx hy
      have e1 : (x == x) = true := by simp
      have e2 : (y.toList == y.toList) = true := by simp
      go_wp2_with fail
      go_quiet (fail)
      go_wp2_with fail
      go_roundg q
      case measure => omega
      case rel => exact ⟨i + 1, by omega, by go_num, ⟨hbw.os, hbw.tape, hbw.output, hbw.size, hbw.block⟩⟩
end Go.Proofs.YtgcogpfmhmmgdaaGreatDoor

namespace Go.Proofs.YtgcogpfmhmmgdaaGreatDoor
open Go.RowKit Go.Shelf
set_option linter.unusedSimpArgs false
set_option linter.unusedVariables false

theorem of_new (L : List Int) (n : Nat) (w : World) (hn : L.length = n) (hL : n ≤ 1000) (hb : ∀ z ∈ L, -9223372036854775808 ≤ z ∧ z ≤ 9223372036854775807) :
    Calls Tryz.prog 30 #[.slice (some ⟨w.heap.size, 0, none⟩) n n] (w.alloc (.cells (L.map fun z => Value.int .i64 z).toArray 3)) fun e w' => ∃ v, e = .returned v ∧ PolyS w' v L ∧ Below w.heap.size w w' := by
  have hbb : ∀ i, i < n → -9223372036854775808 ≤ co L i ∧ co L i ≤ 9223372036854775807 := fun i hi => hb _ (by
    have h := co_get (L := L) (i := i) (by omega)
    exact List.mem_of_getElem? h)
  refine (of_any w.heap.size n n L (w.alloc (.cells (L.map fun z => Value.int .i64 z).toArray 3)) hn hL hbb (fun i hi => ?_)).mono ?_
  · have h := co_get (L := L) (i := i) (by omega)
    simp [h]
  · rintro e w' ⟨v, rfl, h1, h2⟩
    exact ⟨v, rfl, h1, below_more (below1 w _) (Nat.le_refl _) h2⟩
theorem ex_divide {W : World} {v1 v2 : Value} (h1 : PolyS W v1 [1, -2, 0, 1]) (h2 : PolyS W v2 [-1, 1]) :
    Calls Tryz.prog 29 #[v1, v2] W fun e W' => ∃ q r, e = .returned (.tuple #[q, r, .int .i64 0]) ∧ PolyS W' q [-1, 1, 1] ∧ PolyS W' r [] ∧ Below W.heap.size W W' := by
  refine (pDivide_any v1 v2 [1, -2, 0, 1] [-1, 1] [-1, 1, 1] [] 1 1 1 W (h1.at (by omega) (pb_all (by decide))) (h2.at (by omega) (pb_all (by decide))) (by decide) (by decide) (by decide) (by decide) (by omega) (by omega) (by omega) (by decide) ex_div1).mono ?_
  rintro e W' ⟨q, r, rfl, h3, h4, h5⟩
  exact ⟨q, r, rfl, h3.polyS, h4.polyS, h5⟩
theorem ex_gcd {W : World} {v1 v2 : Value} (h1 : PolyS W v1 [-2, 0, 2]) (h2 : PolyS W v2 [-3, 3]) :
    Calls Tryz.prog 31 #[v1, v2] W fun e W' => ∃ v, e = .returned (.tuple #[v, .int .i64 0]) ∧ PolyS W' v [-1, 1] ∧ Below W.heap.size W W' := by
  refine (pGcd_any v1 v2 [-2, 0, 2] [-3, 3] [-1, 1] [] 1 1 W (h1.at (by omega) (pb_all (by decide))) (h2.at (by omega) (pb_all (by decide))) (by decide) (by decide) (by omega) (by omega) (by decide) (by decide) (by rw [ex_prim1, ex_prim2]; decide) (by rw [ex_prim1, ex_prim2]; exact run_gcd)).mono ?_
  rw [ex_cd1]
  rintro e W' ⟨v, rfl, h3, h5⟩
  exact ⟨v, rfl, h3.polyS, h5⟩
theorem ex_sqf {W : World} {v1 : Value} (h1 : PolyS W v1 [0, 0, -4, 4]) :
    Calls Tryz.prog 32 #[v1] W fun e W' => ∃ v, e = .returned (.tuple #[v, .int .i64 0]) ∧ PolyS W' v [0, -1, 1] ∧ Below W.heap.size W W' := by
  refine (psqf_any v1 [0, 0, -4, 4] [0, -2] [] [0, -4, 4] [] 1 2 1 1 W (h1.at (by omega) (pb_all (by decide))) (by decide) (by omega) (by omega) (by decide) (by decide) (by rw [ex_der]; exact pb_all (by decide)) (by rw [ex_der, ex_prim3, ex_prim4]; decide) (by rw [ex_der, ex_prim3, ex_prim4]; exact run_sqf) (by rw [ex_cd2]; decide) (by rw [ex_cd2]; decide) (by rw [ex_cd2]; exact pb_all (by decide)) (by omega) (by rw [ex_cd2]; decide) (by rw [ex_cd2]; exact ex_div2) (pb_all (by decide)) (by decide)).mono ?_
  rw [ex_prim5]
  rintro e W' ⟨v, rfl, h3, h5⟩
  exact ⟨v, rfl, h3.polyS, h5⟩
theorem ex_prL : prL [1, -2, 0, 1] = [120, 94, 51, 32, 45, 32, 50, 42, 120, 32, 43, 32, 49] := by kernel_rfl
theorem ex_print {W : World} {v1 : Value} (h1 : PolyS W v1 [1, -2, 0, 1]) (htab : Lib.TabIs Tryz.prog W "internal/strconv.uint64pow10" .u64 Lib.pow10Tab) :
    Calls Tryz.prog 18 #[v1] W fun e W' => e = .returned (.string ⟨#[120, 94, 51, 32, 45, 32, 50, 42, 120, 32, 43, 32, 49]⟩) ∧ Below W.heap.size W W' := by
  refine (pPrint_any v1 [1, -2, 0, 1] 1 W (h1.at (by omega) (pb_all (by decide))) (by decide) (by omega) htab ?_).mono ?_
  · have e1 : prZ 1 = [49] := by kernel_rfl
    have e2 : prZ 2 = [50] := by kernel_rfl
    rintro ⟨x, hx⟩
    rcases x with _ | _ | _ | _ | x
    · show (prZ 1).length ≤ 100000
      rw [e1]; decide
    · show (prZ 2).length ≤ 100000
      rw [e2]; decide
    · exact absurd rfl hx
    · show (prZ 1).length ≤ 100000
      rw [e1]; decide
    · exact absurd rfl hx
  · rw [ex_prL]
    exact fun e W' h => h
set_option maxRecDepth 100000 in
set_option maxHeartbeats 12800000 in
theorem awake_any (w : World) (htab : Lib.TabIs Tryz.prog w "internal/strconv.uint64pow10" .u64 Lib.pow10Tab) :
    Calls Tryz.prog 6 #[] w fun e w' => e = .returned (.bool true) ∧ Below w.heap.size w w' := by
  have HT := Lib.hid htab
  have HO1 := Lib.hid (fun W => of_new [1, -2, 0, 1] 4 W rfl (by omega) (by decide))
  have HO2 := Lib.hid (fun W => of_new [-1, 1] 2 W rfl (by omega) (by decide))
  have HO3 := Lib.hid (fun W => of_new [-2, 0, 2] 3 W rfl (by omega) (by decide))
  have HO4 := Lib.hid (fun W => of_new [-3, 3] 2 W rfl (by omega) (by decide))
  have HO5 := Lib.hid (fun W => of_new [0, 0, -4, 4] 4 W rfl (by omega) (by decide))
  have HO6 := Lib.hid (fun W => of_new [-1, 1, 1] 3 W rfl (by omega) (by decide))
  have HO7 := Lib.hid (fun W => of_new [-1, 1] 2 W rfl (by omega) (by decide))
  have HO8 := Lib.hid (fun W => of_new [0, -1, 1] 3 W rfl (by omega) (by decide))
  have HO9 := Lib.hid (fun W => of_new [1, -2, 0, 1] 4 W rfl (by omega) (by decide))
  simp only [List.map_cons, List.map_nil] at HO1 HO2 HO3 HO4 HO5 HO6 HO7 HO8 HO9
  go_enter Tryz.func6, Tryz.ntmps6
  go_wp2_with (first
    | (go_at_call 30; (with_reducible refine (HO1.out _).mono ?_); rintro e W1 ⟨v1, rfl, p1, b1⟩; (clear HO1); (have B := b1))
    | (go_at_call 30; (with_reducible refine (HO2.out _).mono ?_); rintro e W2 ⟨v2, rfl, p2, b2⟩; (clear HO2); (have p1 := p1.keep b2); (have B := below_more B (Nat.le_refl _) b2))
    | (go_at_call 29; (with_reducible refine (ex_divide p1 p2).mono ?_); rintro e W3 ⟨q, r, rfl, pq, pr, b3⟩; (obtain ⟨Ar, cr, rfl⟩ := pr.slice); (clear p1 p2); (have B := below_more B (Nat.le_refl _) b3))
    | (go_at_call 30; (with_reducible refine (HO3.out _).mono ?_); rintro e W4 ⟨v3, rfl, pv3, bb⟩; (clear HO3); (have pq := pq.keep bb); (have B := below_more B (Nat.le_refl _) bb))
    | (go_at_call 30; (with_reducible refine (HO4.out _).mono ?_); rintro e W5 ⟨v4, rfl, pv4, bb⟩; (clear HO4); (have pq := pq.keep bb); (have pv3 := pv3.keep bb); (have B := below_more B (Nat.le_refl _) bb))
    | (go_at_call 31; (with_reducible refine (ex_gcd pv3 pv4).mono ?_); rintro e W6 ⟨g, rfl, pg, bb⟩; (clear pv3 pv4); (have pq := pq.keep bb); (have B := below_more B (Nat.le_refl _) bb))
    | (go_at_call 30; (with_reducible refine (HO5.out _).mono ?_); rintro e W7 ⟨v5, rfl, pv5, bb⟩; (clear HO5); (have pq := pq.keep bb); (have pg := pg.keep bb); (have B := below_more B (Nat.le_refl _) bb))
    | (go_at_call 32; (with_reducible refine (ex_sqf pv5).mono ?_); rintro e W8 ⟨sq, rfl, ps, bb⟩; (clear pv5); (have pq := pq.keep bb); (have pg := pg.keep bb); (have B := below_more B (Nat.le_refl _) bb))
    | (go_at_call 30; (with_reducible refine (HO6.out _).mono ?_); rintro e W9 ⟨v6, rfl, pv6, bb⟩; (clear HO6); (have pq := pq.keep bb); (have pg := pg.keep bb); (have ps := ps.keep bb); (have B := below_more B (Nat.le_refl _) bb))
    | (go_at_call 7; (with_reducible refine (equalP_any pq pv6 (by decide)).mono ?_); rintro e W10 ⟨rfl, bb⟩; (clear pq pv6); (have pg := pg.keep bb); (have ps := ps.keep bb); (have B := below_more B (Nat.le_refl _) bb))
    | (go_at_call 30; (with_reducible refine (HO7.out _).mono ?_); rintro e W11 ⟨v7, rfl, pv7, bb⟩; (clear HO7); (have pg := pg.keep bb); (have ps := ps.keep bb); (have B := below_more B (Nat.le_refl _) bb))
    | (go_at_call 7; (with_reducible refine (equalP_any pg pv7 (by decide)).mono ?_); rintro e W12 ⟨rfl, bb⟩; (clear pg pv7); (have ps := ps.keep bb); (have B := below_more B (Nat.le_refl _) bb))
    | (go_at_call 30; (with_reducible refine (HO8.out _).mono ?_); rintro e W13 ⟨v8, rfl, pv8, bb⟩; (clear HO8); (have ps := ps.keep bb); (have B := below_more B (Nat.le_refl _) bb))
    | (go_at_call 7; (with_reducible refine (equalP_any ps pv8 (by decide)).mono ?_); rintro e W14 ⟨rfl, bb⟩; (clear ps pv8); (have B := below_more B (Nat.le_refl _) bb))
    | (go_at_call 30; (with_reducible refine (HO9.out _).mono ?_); rintro e W15 ⟨v9, rfl, pv9, bb⟩; (clear HO9); (have B := below_more B (Nat.le_refl _) bb))
    | (go_at_call 18; (with_reducible refine (ex_print pv9 (tab_keep HT.out B)).mono ?_); rintro e W16 ⟨rfl, bb⟩; (clear pv9); (have B := below_more B (Nat.le_refl _) bb)))
  go_ret
  exact ⟨rfl, B⟩
end Go.Proofs.YtgcogpfmhmmgdaaGreatDoor
