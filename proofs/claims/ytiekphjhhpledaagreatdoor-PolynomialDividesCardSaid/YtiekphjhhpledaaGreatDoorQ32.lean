/- Lists of canonical integers: how the laws make them, and how they are compared. Condition: at most 10^5 of them. slices.Equal of two lists of canonical integers that are equal. grooveref03.Great, and the laws' great and small. -/
import Derived.Test.YtiekphjhhpledaaGreatDoorQ30
import Derived.Test.YtiekphjhhpledaaGreatDoorQ31
import Derived.Maps.AppendAt
import Derived.Deep.QuietTactic
import Derived.BigQuiet
import Derived.Test.YtiekphjhhpledaaGreatDoorQ15

namespace Go.Proofs.YtiekphjhhpledaaGreatDoor
open Go.RowKit Go.Shelf
set_option linter.unusedSimpArgs false
set_option linter.unusedVariables false

/-- A list of canonical integers that can be read in memory. -/
def PolyS (W : World) (v : Value) (L : List Int) : Prop :=
  ∃ (A : Option Addr) (c : Nat), v = .slice A L.length c ∧ L.length ≤ c ∧ ∀ i, i < L.length → ∃ b, A = some ⟨b, 0, none⟩ ∧ W.cell? ⟨b, i * 2, none⟩ = some (.bool (sg (co L i))) ∧ W.cell? ⟨b, i * 2 + 1, none⟩ = some (.string (mg (co L i)))
theorem PolyS.keep {W W1 : World} {v : Value} {L : List Int} (h : PolyS W v L) (hb : Below W.heap.size W W1) : PolyS W1 v L := by
  obtain ⟨A, c, h1, h2, h3⟩ := h
  refine ⟨A, c, h1, h2, fun i hi => ?_⟩
  obtain ⟨b, k1, k2, k3⟩ := h3 i hi
  exact ⟨b, k1, cell_keep k2 hb, cell_keep k3 hb⟩
theorem PolyC.polyS {W : World} {base : Nat} {v : Value} {L : List Int} (h : PolyC W base v L) : PolyS W v L := by
  rcases h with ⟨rfl, rfl⟩ | ⟨b, n, c, rfl, h1, h2, h3, g, s, h4, h5⟩
  · exact ⟨none, 0, rfl, Nat.le_refl _, fun i hi => absurd hi (Nat.not_lt_zero _)⟩
  · refine ⟨_, c, rfl, h2, fun i hi => ⟨b, rfl, ?_⟩⟩
    obtain ⟨k1, k2, -⟩ := h4.cell (i := i) (by omega)
    obtain ⟨e1, e2⟩ := h5 i hi
    rw [e1] at k1
    rw [e2] at k2
    exact ⟨k1, k2⟩
theorem PolyS.at {W : World} {v : Value} {L : List Int} {k : Nat} (h : PolyS W v L) (hk : k ≤ 10000000) (hb : PB L k) : PolyAt W v L k := by
  obtain ⟨A, c, h1, h2, h3⟩ := h
  refine ⟨A, c, fun i => sg (co L i), fun i => mg (co L i), h1, h2, fun i hi => ?_⟩
  obtain ⟨b, k1, k2, k3⟩ := h3 i hi
  have e : (⟨b, 0, none⟩ : Addr).add (i * 2) = ⟨b, i * 2, none⟩ := by unfold Addr.add; split <;> simp_all
  exact ⟨⟨b, 0, none⟩, k1, by rw [e]; exact k2, by rw [e]; exact k3, isInt_mg (hb i) hk⟩
/-- The cells of a list. -/
def pcl (L : List Int) : List Value := L.flatMap fun z => [.bool (sg z), .string (mg z)]
theorem pcl_snoc (L : List Int) (z : Int) : pcl (L ++ [z]) = pcl L ++ [.bool (sg z), .string (mg z)] := by unfold pcl; rw [List.flatMap_append]; rfl
theorem pcl_at (L : List Int) : ∀ i, i < L.length → (pcl L)[i * 2]? = some (.bool (sg (co L i))) ∧ (pcl L)[i * 2 + 1]? = some (.string (mg (co L i))) := by
  induction L with
  | nil => intro i hi; exact absurd hi (Nat.not_lt_zero _)
  | cons x L ih =>
    intro i hi
    cases i with
    | zero => exact ⟨rfl, rfl⟩
    | succ i =>
      have := ih i (by simpa using hi)
      rw [co_consS, show (i + 1) * 2 = i * 2 + 1 + 1 by omega]
      exact this
theorem own_polyS {W : World} {B : Nat} {v : Value} {L : List Int} (h : W.ownsRow B 31 2 v L.length (pcl L)) : PolyS W v L := by
  rcases Nat.eq_zero_or_pos L.length with h0 | h0
  · have := List.eq_nil_of_length_eq_zero h0
    subst this
    rcases h.2 with ⟨h1, h2⟩ | ⟨g, cap, cur, h1, _⟩
    · exact ⟨none, 0, by rw [h1]; rfl, Nat.le_refl _, fun i hi => absurd hi (Nat.not_lt_zero _)⟩
    · exact ⟨_, cap, h1, Nat.zero_le _, fun i hi => absurd hi (Nat.not_lt_zero _)⟩
  · rcases h.2 with ⟨_, h2⟩ | ⟨g, cap, cur, rfl, h3, h4, h5, _⟩
    · omega
    · refine ⟨_, cap, rfl, by omega, fun i hi => ⟨g, rfl, ?_⟩⟩
      obtain ⟨k1, k2⟩ := pcl_at L i hi
      exact ⟨(h.cellAt (i * 2) (by omega)).trans k1, (h.cellAt (i * 2 + 1) (by omega)).trans k2⟩
theorem cell_two_new (w : World) (x y : Value) (t : TypeId) : ∀ j u, [x, y][j]? = some u → (w.alloc (.cells #[x, y] t)).cell? ((⟨w.heap.size, 0, none⟩ : Addr).add j) = some u := by
  intro j u hj
  match j, hj with
  | 0, hj =>
    simp at hj
    subst hj
    simp [Addr.add]
  | 1, hj =>
    simp at hj
    subst hj
    simp [Addr.add]
theorem own_sliceQ {W : World} {B t k n : Nat} {v : Value} {xs : List Value} (h : W.ownsRow B t k v n xs) : ∃ a c, v = .slice a n c := by
  rcases h.2 with ⟨h1, h2⟩ | ⟨g, cap, cur, h1, _⟩
  · exact ⟨none, 0, by rw [h1, h2]⟩
  · exact ⟨_, _, h1⟩
theorem grown_noneQ {w w' : World} (h : Below w.heap.size w w') : w.grownBy w' none := ⟨h.os, h.tape, h.output, h.size, fun k hk _ => h.block k hk⟩
set_option maxRecDepth 100000 in
set_option maxHeartbeats 3200000 in
theorem of_any (b n c : Nat) (L : List Int) (w : World) (hn : L.length = n) (hL : n ≤ 1000) (hb : ∀ i, i < n → -9223372036854775808 ≤ co L i ∧ co L i ≤ 9223372036854775807)
    (hc : ∀ i, i < n → w.cell? ⟨b, i, none⟩ = some (.int .i64 (co L i))) :
    Calls Tryz.prog 20 #[.slice (some ⟨b, 0, none⟩) n c] w fun e w' => ∃ v, e = .returned v ∧ PolyS w' v L ∧ Below w.heap.size w w' := by
  obtain ⟨i0, hi, hz0, hz1, hz2⟩ := info_parts infoI
  have HC := Lib.hid hc
  have HB := Lib.hid hb
  clear hc hb
  go_enter Tryz.func20, Tryz.ntmps20
  go_wp2_with fail
  go_loopg [3, 8] n (fun q s3 s8 wx => ∃ i : Nat, i + q = n ∧ s8 = .int .i64 (i : Int) ∧ (∃ a c, s3 = .slice a i c) ∧ wx.ownsRow w.heap.size 31 2 s3 i (pcl (L.take i)) ∧ Below w.heap.size w wx)
  case atStart => exact ⟨0, by omega, rfl, ⟨none, 0, rfl⟩, World.ownsRow_nil _ _ _ _, Below.refl _ _⟩
  case round =>
    obtain ⟨i, hin, rfl, ⟨a, c3, rfl⟩, hown, hbw⟩ := hrel
    rcases gk with _ | q
    · obtain rfl : i = n := by omega
      have hP := Lib.hid (show PolyS wr (.slice a i c3) L from own_polyS (B := w.heap.size) (by rw [hn]; rw [← hn, List.take_length] at hown; rw [hn] at hown; exact hown))
      clear hown
      go_wp2
      go_ret
      exact ⟨_, rfl, hP.out, hbw⟩
    · have hcell := cell_keep (HC.out i (by omega)) hbw
      obtain ⟨b1, b2⟩ := HB.out i (by omega)
      have hsn := Lib.hid (show L.take (i + 1) = L.take i ++ [co L i] by rw [List.take_add_one, co_get (by omega)]; rfl)
      obtain ⟨z, hz⟩ : ∃ z, co L i = z := ⟨_, rfl⟩
      rw [hz] at hcell b1 b2 hsn
      have HO := Lib.hid (fun W => iof_any z W b1 b2)
      have hlt := hown.lt
      clear hz
      go_wp2_with (first
        | (go_at_call 32; (with_reducible refine (HO.out _).mono ?_); rintro e W1 ⟨rfl, b1'⟩; (have hown1 := hown.kept (grown_noneQ b1') (by cases (Value.slice a i c3).ownBlock <;> simp)); (have hlt1 := hown1.lt); (have hbw1 := below_more hbw (Nat.le_refl _) b1'); (have hbs := hbw1.size))
        | (at_builtin; refine wpList_append_own_at _ rfl _ _ 22 rfl w.heap.size 31 i0 (.agg #[.bool false, .string ⟨#[]⟩]) 2 24 Tryz.underlying22 hi hz0 hz1 hz2 rfl (by decide) _ _ _ rfl (hown1.alloc _) ⟨W1.heap.size, 0, none⟩ 1 1 [.bool (sg z), .string (mg z)] rfl rfl ?c1 ?c2 ?c3 ?c4 ?c5 ?_))
      case c1 => exact cell_two_new _ _ _ _
      case c2 => intro u hu; simp at hu; rcases hu with rfl | rfl <;> rfl
      case c3 => unfold maxLen; omega
      case c4 => omega
      case c5 => rw [World.size_alloc]; omega
      intro v' W2 hown2 hgrow _ hv'
      have hb2 : Below w.heap.size w W2 := (hbw1.alloc hbs _).grown hgrow (by rw [World.size_alloc]; omega) (fun k hk => (hlt1 k hk).1)
      rw [← pcl_snoc, ← hsn.out] at hown2
      obtain ⟨a', c', rfl⟩ := own_sliceQ hown2
      clear hown hown1 hgrow hlt hlt1 hv' hbw hbw1
      go_wp2
      go_roundg q
      case measure => omega
      case rel => exact ⟨i + 1, by omega, rfl, ⟨a', c', rfl⟩, hown2, hb2⟩
end Go.Proofs.YtiekphjhhpledaaGreatDoor

namespace Go.Proofs.YtiekphjhhpledaaGreatDoor
open Go.RowKit Go.Shelf
set_option linter.unusedSimpArgs false
set_option linter.unusedVariables false

theorem PolyS.slice {W : World} {v : Value} {L : List Int} (h : PolyS W v L) : ∃ A c, v = .slice A L.length c := by
  obtain ⟨A, c, h1, -⟩ := h
  exact ⟨A, c, h1⟩
theorem PolyS.get {W : World} {A : Option Addr} {n c : Nat} {L : List Int} (h : PolyS W (.slice A n c) L) {i : Nat} (hi : i < L.length) : ∃ b, A = some ⟨b, 0, none⟩ ∧ W.cell? ⟨b, i * 2, none⟩ = some (.bool (sg (co L i))) ∧ W.cell? ⟨b, i * 2 + 1, none⟩ = some (.string (mg (co L i))) := by
  obtain ⟨A', c', h1, h2, h3⟩ := h
  injection h1 with e1 e2 e3
  subst e1
  exact h3 i hi
set_option maxRecDepth 100000 in
set_option maxHeartbeats 3200000 in
theorem equalP_any {W : World} {v v' : Value} {L : List Int} (h : PolyS W v L) (h' : PolyS W v' L) (hl : L.length ≤ 1000000) :
    Calls Tryz.prog 10 #[v, v'] W fun e W' => e = .returned (.bool true) ∧ Below W.heap.size W W' := by
  obtain ⟨A, c, rfl⟩ := h.slice
  obtain ⟨A', c', rfl⟩ := h'.slice
  have H := Lib.hid h
  have H' := Lib.hid h'
  obtain ⟨n, hn⟩ : ∃ n, L.length = n := ⟨_, rfl⟩
  rw [hn] at hl H H' ⊢
  clear h h'
  go_enter Tryz.func10, Tryz.ntmps10
  go_wp2_with fail
  go_loopg [13] n (fun q s13 wx => ∃ i : Nat, i + q = n ∧ s13 = .int .i64 (i : Int) ∧ Below W.heap.size W wx)
  case atStart => exact ⟨0, by omega, rfl, Below.refl _ _⟩
  case round =>
    obtain ⟨i, hin, rfl, hbw⟩ := hrel
    rcases gk with _ | q
    · obtain rfl : i = n := by omega
      go_wp2
      go_ret
      exact ⟨rfl, hbw⟩
    · obtain ⟨b, rfl, k1, k2⟩ := H.out.get (i := i) (by omega)
      obtain ⟨b', rfl, k3, k4⟩ := H'.out.get (i := i) (by omega)
      have c1 := cell_keep k1 hbw
      have c2 := cell_keep k2 hbw
      have c3 := cell_keep k3 hbw
      have c4 := cell_keep k4 hbw
      obtain ⟨x, hx⟩ : ∃ x, sg (co L i) = x := ⟨_, rfl⟩
      obtain ⟨y, hy⟩ : ∃ y, mg (co L i) = y := ⟨_, rfl⟩
      rw [hx] at c1 c3
      rw [hy] at c2 c4
      clear k1 k2 k3 k4 hx hy
      have e1 : (x == x) = true := by simp
      have e2 : (y.toList == y.toList) = true := by simp
      go_wp2_with fail
      go_quiet (fail)
      go_wp2_with fail
      go_roundg q
      case measure => omega
      case rel => exact ⟨i + 1, by omega, by go_num, ⟨hbw.os, hbw.tape, hbw.output, hbw.size, hbw.block⟩⟩
end Go.Proofs.YtiekphjhhpledaaGreatDoor

namespace Go.Proofs.YtiekphjhhpledaaGreatDoor
open Go.RowKit Go.Shelf
set_option linter.unusedSimpArgs false
set_option linter.unusedVariables false

/-- A list of integers as it comes in. -/
def ArgS (W : World) (v : Value) (n : Nat) (s : Nat → ByteArray) : Prop :=
  ∃ (A : Option Addr) (c : Nat) (g : Nat → Bool), v = .slice A n c ∧ n ≤ c ∧ ∀ i, i < n → ∃ a, A = some a ∧ W.cell? (a.add (i * 2)) = some (.bool (g i)) ∧ W.cell? ⟨(a.add (i * 2)).block, (a.add (i * 2)).off + 1, none⟩ = some (.string (s i))
theorem ArgS.keep {W W1 : World} {v : Value} {n : Nat} {s : Nat → ByteArray} (h : ArgS W v n s) (hb : Below W.heap.size W W1) : ArgS W1 v n s := by
  obtain ⟨A, c, g, h1, h2, h3⟩ := h
  refine ⟨A, c, g, h1, h2, fun i hi => ?_⟩
  obtain ⟨a, k1, k2, k3⟩ := h3 i hi
  exact ⟨a, k1, cell_keep k2 hb, cell_keep k3 hb⟩
def grP (n : Nat) (s : Nat → ByteArray) : Bool := (List.range n).any (fun i => decide (3 < (s i).size)) || ((decide (8 < n) && decide (n ≤ 65)) || decide (68 < n))
theorem grP_big {n : Nat} {s : Nat → ByteArray} {i : Nat} (hi : i < n) (h : 3 < (s i).size) : grP n s = true := by
  unfold grP
  rw [Bool.or_eq_true]
  exact Or.inl (List.any_eq_true.2 ⟨i, List.mem_range.2 hi, decide_eq_true h⟩)
theorem grP_all {n : Nat} {s : Nat → ByteArray} (h : ∀ i, i < n → (s i).size ≤ 3) : grP n s = ((decide (8 < n) && decide (n ≤ 65)) || decide (68 < n)) := by
  unfold grP
  rw [show (List.range n).any (fun i => decide (3 < (s i).size)) = false from List.any_eq_false.2 (fun i hi => by
    have := h i (List.mem_range.1 hi)
    simp; omega), Bool.false_or]
set_option maxRecDepth 100000 in
set_option maxHeartbeats 3200000 in
theorem great_any (v : Value) (n : Nat) (s : Nat → ByteArray) (w : World) (h : ArgS w v n s) (hn : n ≤ 9223372036854775807) (hs : ∀ i, i < n → (s i).size ≤ 9223372036854775807) :
    Calls Tryz.prog 33 #[v] w fun e w' => e = .returned (.bool (grP n s)) ∧ Below w.heap.size w w' := by
  obtain ⟨A, c, g, rfl, hc, h3⟩ := h
  have H := Lib.hid h3
  have HS := Lib.hid hs
  have HB := Lib.hid (fun i (hi : i < n) (h : 3 < (s i).size) => grP_big (n := n) (s := s) hi h)
  have HN := Lib.hid (fun (h : ∀ i, i < n → (s i).size ≤ 3) => grP_all (n := n) (s := s) h)
  obtain ⟨R, hR⟩ : ∃ R, grP n s = R := ⟨_, rfl⟩
  rw [hR] at HB HN ⊢
  clear h3 hs hR
  go_enter Tryz.func33, Tryz.ntmps33
  go_wp2_with fail
  go_loopg [3] n (fun q s3 wx => ∃ i : Nat, i + q = n ∧ s3 = .int .i64 (i : Int) ∧ Hid (∀ j, j < i → (s j).size ≤ 3) ∧ Below w.heap.size w wx)
  case atStart => exact ⟨0, by omega, rfl, fun j hj => absurd hj (Nat.not_lt_zero _), Below.refl _ _⟩
  case round =>
    obtain ⟨i, hin, rfl, hall, hb⟩ := hrel
    rcases gk with _ | q
    · obtain rfl : i = n := by omega
      have HG := Lib.hid (HN.out hall.out)
      clear hall HN HB
      rcases (show i ≤ 8 ∨ (8 < i ∧ i ≤ 65) ∨ (65 < i ∧ i ≤ 68) ∨ 68 < i by omega) with h | ⟨h, h'⟩ | ⟨h, h'⟩ | h
      · have d1 : decide ((8 : Int) < (i : Int)) = false := decide_eq_false (by omega)
        have d2 : decide ((68 : Int) < (i : Int)) = false := decide_eq_false (by omega)
        have HR := Lib.hid (show R = false by rw [HG.out, decide_eq_false (show ¬ 8 < i by omega), decide_eq_false (show ¬ 68 < i by omega)]; rfl)
        go_wp2
        go_ret
        exact ⟨by rw [HR.out]; rfl, hb⟩
      · have d1 : decide ((8 : Int) < (i : Int)) = true := decide_eq_true (by omega)
        have d2 : decide ((i : Int) ≤ 65) = true := decide_eq_true (by omega)
        have HR := Lib.hid (show R = true by rw [HG.out, decide_eq_true h, decide_eq_true h']; rfl)
        go_wp2
        go_ret
        exact ⟨by rw [HR.out]; rfl, hb⟩
      · have d1 : decide ((8 : Int) < (i : Int)) = true := decide_eq_true (by omega)
        have d2 : decide ((i : Int) ≤ 65) = false := decide_eq_false (by omega)
        have d3 : decide ((68 : Int) < (i : Int)) = false := decide_eq_false (by omega)
        have HR := Lib.hid (show R = false by rw [HG.out, decide_eq_false (show ¬ i ≤ 65 by omega), decide_eq_false (show ¬ 68 < i by omega), Bool.and_false]; rfl)
        go_wp2
        go_ret
        exact ⟨by rw [HR.out]; rfl, hb⟩
      · have d1 : decide ((8 : Int) < (i : Int)) = true := decide_eq_true (by omega)
        have d2 : decide ((i : Int) ≤ 65) = false := decide_eq_false (by omega)
        have d3 : decide ((68 : Int) < (i : Int)) = true := decide_eq_true (by omega)
        have HR := Lib.hid (show R = true by rw [HG.out, decide_eq_true h, Bool.or_true])
        go_wp2
        go_ret
        exact ⟨by rw [HR.out]; rfl, hb⟩
    · obtain ⟨a, rfl, k1, k2⟩ := H.out i (by omega)
      have c1 := cell_keep k1 hb
      have c2 := cell_keep k2 hb
      have hsz := HS.out i (by omega)
      have hbig := Lib.hid (HB.out i (by omega))
      have hall2 := Lib.hid (fun (h : (s i).size ≤ 3) => (fun j (hj : j < i + 1) => by
        by_cases e : j = i
        · subst e; exact h
        · exact hall.out j (by omega) : ∀ j, j < i + 1 → (s j).size ≤ 3))
      obtain ⟨z, hz⟩ : ∃ z, s i = z := ⟨_, rfl⟩
      rw [hz] at c2 hsz hbig hall2
      clear k1 k2 hz hall
      by_cases hlt : 3 < z.size
      · have d1 : decide ((3 : Int) < (z.size : Int)) = true := decide_eq_true (by omega)
        have HR := Lib.hid (hbig.out hlt)
        clear hbig hall2
        go_wp2
        go_ret
        exact ⟨by rw [HR.out]; rfl, hb⟩
      · have d1 : decide ((3 : Int) < (z.size : Int)) = false := decide_eq_false (by omega)
        have HA := Lib.hid (hall2.out (by omega))
        clear hbig hall2
        go_wp2
        go_roundg q
        case measure => omega
        case rel => exact ⟨i + 1, by omega, by go_num, HA, hb⟩
/-- Lists of integers in a list, as they come in. -/
def ArgsS (W : World) (b m : Nat) (n : Nat → Nat) (s : Nat → Nat → ByteArray) : Prop := ∀ k, k < m → ∃ v, W.cell? ⟨b, k, none⟩ = some v ∧ ArgS W v (n k) (s k)
theorem ArgsS.keep {W W1 : World} {b m : Nat} {n : Nat → Nat} {s : Nat → Nat → ByteArray} (h : ArgsS W b m n s) (hb : Below W.heap.size W W1) : ArgsS W1 b m n s := fun k hk => by
  obtain ⟨v, h1, h2⟩ := h k hk
  exact ⟨v, cell_keep h1 hb, h2.keep hb⟩
set_option maxRecDepth 100000 in
set_option maxHeartbeats 3200000 in
theorem index_any (f : FuncId) (hE : ∀ args w, (callFunc f args).run Tryz.prog w = .ok (.enter f args) w) (b m c : Nat) (n : Nat → Nat) (s : Nat → Nat → ByteArray) (p : Nat → Bool) (w : World) (h : ArgsS w b m n s) (hm : m ≤ 1000) (q : Nat) (hq : q ≤ m) (hlt : ∀ k, k < q → p k = false) (hat : q < m → p q = true)
    (hF : ∀ k v W, k < m → ArgS W v (n k) (s k) → Calls Tryz.prog f #[v] W fun e W' => e = .returned (.bool (p k)) ∧ Below W.heap.size W W') :
    Calls Tryz.prog 41 #[.slice (some ⟨b, 0, none⟩) m c, .func (.func f) #[] #[]] w fun e w' => e = .returned (.int .i64 (if q < m then (q : Int) else -1)) ∧ Below w.heap.size w w' := by
  have H := Lib.hid h
  have HF := Lib.hid hF
  have HL := Lib.hid hlt
  have HA := Lib.hid hat
  obtain ⟨R, hR⟩ : ∃ R, (if q < m then (q : Int) else -1) = R := ⟨_, rfl⟩
  have HR := Lib.hid hR
  rw [hR]
  clear h hF hlt hat hR
  go_enter Tryz.func41, Tryz.ntmps41
  go_wp2_with fail
  go_loopg [8] q (fun g s8 wx => ∃ i : Nat, i + g = q ∧ s8 = .int .i64 (i : Int) ∧ Below w.heap.size w wx)
  case atStart => exact ⟨0, by omega, rfl, Below.refl _ _⟩
  case round =>
    obtain ⟨i, hin, rfl, hb⟩ := hrel
    rcases gk with _ | g
    · obtain rfl : i = q := by omega
      rcases Nat.lt_or_ge i m with him | him
      · obtain ⟨v, hv, ha⟩ := H.out i him
        have hv1 := cell_keep hv hb
        have HC := Lib.hid (HF.out i v wr him (ha.keep hb))
        rw [HA.out him] at HC
        have HR' := Lib.hid (show R = (i : Int) by rw [← HR.out, if_pos him])
        clear hv
        go_wp2_with ((with_reducible refine (HC.out).mono ?_); rintro e W1 ⟨rfl, b1⟩; (have hb1 := below_more hb (Nat.le_refl _) b1))
        go_ret
        exact ⟨by rw [HR'.out]; rfl, hb1⟩
      · have HR' := Lib.hid (show R = -1 by rw [← HR.out, if_neg (by omega)])
        obtain rfl : i = m := by omega
        go_wp2
        go_ret
        exact ⟨by rw [HR'.out]; rfl, hb⟩
    · have him : i < m := by omega
      obtain ⟨v, hv, ha⟩ := H.out i him
      have hv1 := cell_keep hv hb
      have HC := Lib.hid (HF.out i v wr him (ha.keep hb))
      rw [HL.out i (by omega)] at HC
      clear hv
      go_wp2_with ((with_reducible refine (HC.out).mono ?_); rintro e W1 ⟨rfl, b1⟩; (have hb1 := below_more hb (Nat.le_refl _) b1))
      go_roundg g
      case measure => omega
      case rel => exact ⟨i + 1, by omega, by go_num, hb1⟩
set_option maxRecDepth 100000 in
set_option maxHeartbeats 3200000 in
theorem contains_any (f : FuncId) (hE : ∀ args w, (callFunc f args).run Tryz.prog w = .ok (.enter f args) w) (b m c : Nat) (n : Nat → Nat) (s : Nat → Nat → ByteArray) (p : Nat → Bool) (w : World) (h : ArgsS w b m n s) (hm : m ≤ 1000) (q : Nat) (hq : q ≤ m) (hlt : ∀ k, k < q → p k = false) (hat : q < m → p q = true)
    (hF : ∀ k v W, k < m → ArgS W v (n k) (s k) → Calls Tryz.prog f #[v] W fun e W' => e = .returned (.bool (p k)) ∧ Below W.heap.size W W') :
    Calls Tryz.prog 18 #[.slice (some ⟨b, 0, none⟩) m c, .func (.func f) #[] #[]] w fun e w' => e = .returned (.bool (decide (q < m))) ∧ Below w.heap.size w w' := by
  have HI := Lib.hid (index_any f hE b m c n s p w h hm q hq hlt hat hF)
  have hd : decide ((0 : Int) ≤ (if q < m then (q : Int) else -1)) = decide (q < m) := by
    by_cases e : q < m
    · rw [if_pos e, decide_eq_true e]; exact decide_eq_true (by omega)
    · rw [if_neg e, decide_eq_false e]; rfl
  obtain ⟨R, hR⟩ : ∃ R, (if q < m then (q : Int) else -1) = R := ⟨_, rfl⟩
  rw [hR] at HI hd
  clear h hF hlt hat hR
  go_enter Tryz.func18, Tryz.ntmps18
  go_wp2_with (go_at_call 41; (with_reducible refine (HI.out).mono ?_); rintro e W1 ⟨rfl, b1⟩)
  go_ret
  exact ⟨rfl, b1⟩
end Go.Proofs.YtiekphjhhpledaaGreatDoor
