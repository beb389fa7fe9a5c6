/- What grooveref02.Great returns over a slice of rational numbers. Condition: at most a million of them. Variables in blocks, as one statement over a list. No condition. Words for the laws on rational numbers: variables in blocks, sizes, and what is handed in. No condition. -/
import Derived.Test.YtcljkdninmldiaaGreatDoorQ30
import Derived.Lib.Hide
import Derived.Test.YtcljkdninmldiaaGreatDoorQ07
import Derived.Test.YtcljkdninmldiaaGreatDoorQ37

namespace Go.Proofs.YtcljkdninmldiaaGreatDoor
open Go.RowKit
set_option linter.unusedSimpArgs false

theorem great24 (na : Bool) (sa : ByteArray) (w : World) (hs : sa.size ≤ 9223372036854775807) :
    Calls Tryz.prog 14 #[.agg #[.bool na, .string sa]] w fun e w' => e = .returned (.bool (decide (24 < sa.size))) ∧ Below w.heap.size w w' := by
  have hb := below1 w (.cells #[.bool na, .string sa] 23)
  have hd : (decide ((24 : Int) < (sa.size : Int))) = decide (24 < sa.size) := decide_eq_decide.2 (by omega)
  go_enter Tryz.func14, Tryz.ntmps14
  go_wp2
  go_ret
  exact ⟨rfl, hb⟩

/-- n rational numbers lie in a row. -/
def RdRats (w : World) (b n : Nat) (g1 : Nat → Bool) (s1 : Nat → ByteArray) (g2 : Nat → Bool) (s2 : Nat → ByteArray) : Prop :=
  ∀ i, i < n → w.cell? ⟨b, i * 4, none⟩ = some (.bool (g1 i)) ∧ w.cell? ⟨b, i * 4 + 1, none⟩ = some (.string (s1 i)) ∧ w.cell? ⟨b, i * 4 + 2, none⟩ = some (.bool (g2 i)) ∧ w.cell? ⟨b, i * 4 + 2 + 1, none⟩ = some (.string (s2 i))
def greatRB (n : Nat) (s1 s2 : Nat → ByteArray) : Bool := (List.range n).any fun i => decide (24 < (s1 i).size) || decide (24 < (s2 i).size)

set_option maxRecDepth 100000 in
set_option maxHeartbeats 1600000 in
theorem greatR_any (b n c : Nat) (g1 : Nat → Bool) (s1 : Nat → ByteArray) (g2 : Nat → Bool) (s2 : Nat → ByteArray) (w : World) (h : RdRats w b n g1 s1 g2 s2) (hn : n ≤ 1000000) (hs : ∀ i, i < n → (s1 i).size ≤ 9223372036854775807 ∧ (s2 i).size ≤ 9223372036854775807) :
    Calls Tryz.prog 4 #[.slice (some ⟨b, 0, none⟩) n c] w fun e w' => e = .returned (.bool (greatRB n s1 s2)) ∧ Below w.heap.size w w' := by
  have H : Hid (RdRats w b n g1 s1 g2 s2) := h
  have Hs := Lib.hid hs
  clear h hs
  go_enter Tryz.func4, Tryz.ntmps4
  go_wp2_with fail
  go_loopg [3] n (fun g s3 wx => g ≤ n ∧ s3 = .int .i64 ((n - g : Nat) : Int) ∧ Below w.heap.size w wx ∧ Hid (∀ i, i < n - g → (s1 i).size ≤ 24 ∧ (s2 i).size ≤ 24))
  case atStart => exact ⟨Nat.le_refl _, by rw [Nat.sub_self]; rfl, Below.refl _ _, fun i hi => absurd hi (by omega)⟩
  case round =>
    obtain ⟨hg, rfl, hb, hall⟩ := hrel
    rcases gk with _ | g
    · have hgr : Hid (greatRB n s1 s2 = false) := by
        show _ = _
        unfold greatRB
        rw [List.any_eq_false]
        intro i hi
        have := hall.out i (by have := List.mem_range.1 hi; omega)
        simp; omega
      go_wp2
      go_ret
      exact ⟨by rw [hgr.out]; rfl, hb⟩
    · obtain ⟨i, hi⟩ : ∃ i, i = n - (g + 1) := ⟨_, rfl⟩
      rw [← hi] at hall ⊢
      have hin : i < n := by omega
      have HI : Hid (i + 1 = n - g ∧ g + 1 ≤ n) := by show _ ∧ _; omega
      obtain ⟨h1, h2, h3, h4⟩ := H.out i hin
      have x1 : wr.cell? ⟨b, i * 4, none⟩ = some (.bool (g1 i)) := (hb.cell (World.block_lt_of_cell? _ _ h1)).trans h1
      have x2 : wr.cell? ⟨b, i * 4 + 1, none⟩ = some (.string (s1 i)) := (hb.cell (World.block_lt_of_cell? _ _ h2)).trans h2
      have x3 : wr.cell? ⟨b, i * 4 + 2, none⟩ = some (.bool (g2 i)) := (hb.cell (World.block_lt_of_cell? _ _ h3)).trans h3
      have x4 : wr.cell? ⟨b, i * 4 + 2 + 1, none⟩ = some (.string (s2 i)) := (hb.cell (World.block_lt_of_cell? _ _ h4)).trans h4
      obtain ⟨z1, z2⟩ := Hs.out i hin
      clear hi h1 h2 h3 h4 hg
      go_wp2_with fail
      refine (great24 (g1 i) (s1 i) _ z1).mono ?_
      rintro e W1 ⟨rfl, b1⟩
      have hb2 := below_more hb (Nat.le_refl _) b1
      have y1 := cell_keep x1 b1
      have y2 := cell_keep x2 b1
      have y3 := cell_keep x3 b1
      have y4 := cell_keep x4 b1
      clear hb b1 x1 x2 x3 x4
      by_cases hbig : 24 < (s1 i).size
      · have hgr : Hid (greatRB n s1 s2 = true) := by
          show _ = _
          unfold greatRB
          rw [List.any_eq_true]
          exact ⟨i, List.mem_range.2 hin, by rw [decide_eq_true hbig]; rfl⟩
        rw [decide_eq_true hbig]
        go_wp2
        go_ret
        exact ⟨by rw [hgr.out]; rfl, hb2⟩
      · rw [decide_eq_false hbig]
        go_wp2_with fail
        refine (great24 (g2 i) (s2 i) _ z2).mono ?_
        rintro e W2 ⟨rfl, b2⟩
        have hb3 := below_more hb2 (Nat.le_refl _) b2
        clear hb2 b2 y1 y2 y3 y4
        by_cases hbig2 : 24 < (s2 i).size
        · have hgr : Hid (greatRB n s1 s2 = true) := by
            show _ = _
            unfold greatRB
            rw [List.any_eq_true]
            exact ⟨i, List.mem_range.2 hin, by rw [decide_eq_true hbig2]; simp⟩
          rw [decide_eq_true hbig2]
          go_wp2
          go_ret
          exact ⟨by rw [hgr.out]; rfl, hb3⟩
        · have hall2 : Hid (∀ j, j < i + 1 → (s1 j).size ≤ 24 ∧ (s2 j).size ≤ 24) := by
            intro j hj
            by_cases e : j = i
            · subst e; omega
            · exact hall.out j (by omega)
          rw [decide_eq_false hbig2]
          go_wp2
          go_roundg g
          case measure => omega
          case rel => exact ⟨by have := HI.out.2; omega, by rw [← HI.out.1]; rfl, hb3, by rw [← HI.out.1]; exact hall2⟩
end Go.Proofs.YtcljkdninmldiaaGreatDoor

namespace Go.Proofs.YtcljkdninmldiaaGreatDoor
open Go.RowKit
set_option linter.unusedSimpArgs false

/-- What lies in some blocks: the values from the first cell of each on. -/
def Vars (L : List (Nat × List Value)) (W : World) : Prop := ∀ x ∈ L, x.1 < W.heap.size ∧ ∀ i v, x.2[i]? = some v → W.cell? ⟨x.1, i, none⟩ = some v
theorem Vars.keep {L : List (Nat × List Value)} {W W1 : World} (hb : Below W.heap.size W W1) (h : Vars L W) : Vars L W1 := fun x hx => ⟨Nat.lt_of_lt_of_le (h x hx).1 hb.size, fun i v e => cell_keep ((h x hx).2 i v e) hb⟩
theorem Vars.nil (W : World) : Vars [] W := fun x hx => by cases hx
theorem Vars.drew {L : List (Nat × List Value)} {W : World} (h : Vars L W) : Vars L W.drew := h
theorem Vars.alloc {L : List (Nat × List Value)} {W : World} (h : Vars L W) (o : Obj) : Vars L (W.alloc o) := h.keep ((Below.refl _ _).alloc (Nat.le_refl _) _)
theorem Vars.set {L : List (Nat × List Value)} {W : World} (h : Vars L W) (a : Addr) (ha : ∀ x ∈ L, x.1 ≠ a.block) (u : Value) : Vars L (W.setCell a u) := fun x hx =>
  ⟨by rw [World.size_setCell]; exact (h x hx).1, fun i v e => by rw [World.cell?_setCell_far _ _ _ _ (by dsimp only; exact fun e => ha x hx e.symm)]; exact (h x hx).2 i v e⟩
theorem Vars.set4 {L : List (Nat × List Value)} {W : World} {p : Nat} (h : Vars L W) (hp : ∀ x ∈ L, x.1 ≠ p) (u1 u2 u3 u4 : Value) : Vars L ((((W.setCell ⟨p, 0, none⟩ u1).setCell ⟨p, 1, none⟩ u2).setCell ⟨p, 2, none⟩ u3).setCell ⟨p, 3, none⟩ u4) :=
  (((h.set _ hp _).set _ hp _).set _ hp _).set _ hp _
theorem Vars.new {L : List (Nat × List Value)} {W : World} (h : Vars L W) (vs : List Value) (t : TypeId) : Vars ((W.heap.size, vs) :: L) (W.alloc (.cells vs.toArray t)) := by
  intro x hx
  rcases List.mem_cons.1 hx with rfl | hx
  · refine ⟨by rw [World.size_alloc]; exact Nat.lt_succ_self _, fun i v e => ?_⟩
    simp only [World.cell?_alloc_mark]; simpa using e
  · exact h.alloc _ x hx
theorem Vars.at {L : List (Nat × List Value)} {W : World} (h : Vars L W) (k i : Nat) {p : Nat} {v : Value} (e : (L[k]?.bind fun x => x.2[i]?.map fun v => (x.1, v)) = some (p, v)) : W.cell? ⟨p, i, none⟩ = some v := by
  rcases hx : L[k]? with _ | x
  · rw [hx] at e; cases e
  · rw [hx] at e
    simp only [Option.bind_some] at e
    rcases hv : x.2[i]? with _ | u
    · rw [hv] at e; cases e
    · rw [hv] at e
      simp only [Option.map_some, Option.some.injEq, Prod.mk.injEq] at e
      obtain ⟨rfl, rfl⟩ := e
      exact (h x (List.mem_of_getElem? hx)).2 i u hv
theorem Vars.cons {W : World} {p : Nat} {v0 : Value} {vs : List Value} {L : List (Nat × List Value)} (h : ∀ i v, (v0 :: vs)[i]? = some v → W.cell? ⟨p, i, none⟩ = some v) (hL : Vars L W) : Vars ((p, v0 :: vs) :: L) W := by
  intro x hx
  rcases List.mem_cons.1 hx with rfl | hx
  · exact ⟨World.block_lt_of_cell? W ⟨p, 0, none⟩ (h 0 v0 rfl), h⟩
  · exact hL x hx
theorem Vars.one {W : World} {p : Nat} {v0 : Value} {vs : List Value} (h : ∀ i v, (v0 :: vs)[i]? = some v → W.cell? ⟨p, i, none⟩ = some v) : Vars [(p, v0 :: vs)] W := Vars.cons h (Vars.nil _)
theorem Vars.tail {L : List (Nat × List Value)} {x : Nat × List Value} {W : World} (h : Vars (x :: L) W) : Vars L W := fun y hy => h y (List.mem_cons_of_mem _ hy)
theorem Vars.far {L : List (Nat × List Value)} {W : World} (h : Vars L W) {p : Nat} (hp : W.heap.size ≤ p) : ∀ x ∈ L, x.1 ≠ p := fun x hx e => by
  have := (h x hx).1
  omega
theorem four_cells {W : World} {p : Nat} {a b c d : Value} (h0 : W.cell? ⟨p, 0, none⟩ = some a) (h1 : W.cell? ⟨p, 1, none⟩ = some b) (h2 : W.cell? ⟨p, 2, none⟩ = some c) (h3 : W.cell? ⟨p, 3, none⟩ = some d) :
    ∀ i v, [a, b, c, d][i]? = some v → W.cell? ⟨p, i, none⟩ = some v := by
  intro i v e
  rcases i with _ | _ | _ | _ | i
  · simp at e; subst e; exact h0
  · simp at e; subst e; exact h1
  · simp at e; subst e; exact h2
  · simp at e; subst e; exact h3
  · simp at e

theorem two_cells {W : World} {p : Nat} {a b : Value} (h0 : W.cell? ⟨p, 0, none⟩ = some a) (h1 : W.cell? ⟨p, 1, none⟩ = some b) : ∀ i v, [a, b][i]? = some v → W.cell? ⟨p, i, none⟩ = some v := by
  intro i v e
  rcases i with _ | _ | i
  · simp at e; subst e; exact h0
  · simp at e; subst e; exact h1
  · simp at e
end Go.Proofs.YtcljkdninmldiaaGreatDoor

namespace Go.Proofs.YtcljkdninmldiaaGreatDoor
open Go.RowKit
set_option linter.unusedSimpArgs false

/-- A variable of the type api.Rat, made before calls and stored behind them. -/
theorem Vars.stored {L : List (Nat × List Value)} {W : World} {p : Nat} {u1 u2 u3 u4 : Value} (h : Vars ((p, [u1, u2, u3, u4]) :: L) W) (hp : ∀ x ∈ L, x.1 ≠ p) (g1 g2 : Bool) (s1 s2 : ByteArray) :
    Vars ((p, [.bool g1, .string s1, .bool g2, .string s2]) :: L) ((((W.setCell ⟨p, 0, none⟩ (.bool g1)).setCell ⟨p, 1, none⟩ (.string s1)).setCell ⟨p, 2, none⟩ (.bool g2)).setCell ⟨p, 3, none⟩ (.string s2)) := by
  obtain ⟨r1, r2, r3, r4⟩ := RIn.made (W := W) (p := p) ⟨u1, u2, u3, u4, h.at 0 0 rfl, h.at 0 1 rfl, h.at 0 2 rfl, h.at 0 3 rfl⟩ g1 g2 s1 s2
  refine Vars.cons ?_ ((((h.tail.set _ hp _).set _ hp _).set _ hp _).set _ hp _)
  intro i v e
  rcases i with _ | _ | _ | _ | i
  · simp at e; subst e; exact r1
  · simp at e; subst e; exact r2
  · simp at e; subst e; exact r3
  · simp at e; subst e; exact r4
  · simp at e
def sel {α : Type} (l : List α) (d : α) : Nat → α := fun i => l.getD i d
theorem below4 (w : World) (o1 o2 o3 o4 : Obj) : Below w.heap.size w ((((w.alloc o1).alloc o2).alloc o3).alloc o4) := (below3 w o1 o2 o3).alloc (by simp only [World.size_alloc]; omega) _

/-- Sizes. -/
theorem arg_rat {na nb : Bool} {sa sb : ByteArray} (ha : sa.size ≤ 24) (hb : sb.size ≤ 24) : IsRat (.agg #[.bool na, .string sa, .bool nb, .string sb]) (Rat.divInt (zv na sa) (zv nb sb)) 15 :=
  ⟨na, sa, nb, sb, _, _, rfl, arg_int na sa (by omega), arg_int nb sb (by omega), rfl⟩
theorem IsRat.bd {v : Value} {q : Rat} {k : Nat} (h : IsRat v q k) : RatBd q (k + 1) := by
  obtain ⟨_, _, _, _, n, d, _, h2, h3, rfl⟩ := h
  exact ratBd_divInt h2.bd h3.bd
theorem IsRat.wider {v : Value} {q : Rat} {k k' : Nat} (h : IsRat v q k) (hk : k ≤ k') (hk' : k' ≤ 10000000) : IsRat v q k' := by
  obtain ⟨na, sa, nb, sb, n, d, h1, h2, h3, h4⟩ := h
  exact ⟨na, sa, nb, sb, n, d, h1, h2.wider hk hk', h3.wider hk hk', h4⟩
theorem RatBd.wider {q : Rat} {k k' : Nat} (h : RatBd q k) (hk : k ≤ k') : RatBd q k' :=
  ⟨Nat.lt_of_lt_of_le h.1 (Nat.pow_le_pow_right (by omega) hk), Nat.lt_of_lt_of_le h.2 (Nat.pow_le_pow_right (by omega) hk)⟩
theorem rat_is {q : Rat} {k : Nat} (h : RatBd q k) (k' : Nat) (hk : k ≤ k') (hk' : k' ≤ 10000000) : IsRat (.agg #[.bool (sg q.num), .string (mg q.num), .bool (sg (q.den : Int)), .string (mg (q.den : Int))]) q k' := isRat_ratV (h.wider hk) hk'
theorem rbd_mul {p q r : Rat} {k1 k2 : Nat} (h1 : RatBd p k1) (h2 : RatBd q k2) (e : p * q = r) : RatBd r (k1 + k2 + 1) := by
  subst e
  have e : p * q = Rat.divInt (p.num * q.num) ((p.den : Int) * (q.den : Int)) := by rw [← Rat.divInt_mul_divInt, Rat.num_divInt_den, Rat.num_divInt_den]
  rw [e]
  refine ratBd_divInt ?_ ?_
  · rw [Int.natAbs_mul]; exact prod_bound h1.1 h2.1
  · rw [Int.natAbs_mul]; exact prod_bound h1.2 h2.2
theorem rbd_add {p q r : Rat} {k1 k2 : Nat} (h1 : RatBd p k1) (h2 : RatBd q k2) (e : p + q = r) : RatBd r (k1 + k2 + 2) := by
  subst e
  have hp := p.den_pos
  have hq := q.den_pos
  have e : p + q = Rat.divInt (p.num * (q.den : Int) + q.num * (p.den : Int)) ((p.den : Int) * (q.den : Int)) := by
    rw [← Rat.divInt_add_divInt _ _ (by omega) (by omega), Rat.num_divInt_den, Rat.num_divInt_den]
  rw [e]
  have b1 : (p.num * (q.den : Int)).natAbs < 4294967296 ^ (k1 + k2) := by rw [Int.natAbs_mul]; exact prod_bound h1.1 h2.2
  have b2 : (q.num * (p.den : Int)).natAbs < 4294967296 ^ (k1 + k2) := by rw [Int.natAbs_mul, Nat.add_comm]; exact prod_bound h2.1 h1.2
  have b3 : ((p.den : Int) * (q.den : Int)).natAbs < 4294967296 ^ (k1 + k2) := by rw [Int.natAbs_mul]; exact prod_bound h1.2 h2.2
  have b4 := Int.natAbs_add_le (p.num * (q.den : Int)) (q.num * (p.den : Int))
  refine ratBd_divInt (k := k1 + k2 + 1) ?_ ?_
  · rw [Nat.pow_succ]; omega
  · rw [Nat.pow_succ]; omega
theorem rbd_neg {p r : Rat} {k : Nat} (h : RatBd p k) (e : -p = r) : RatBd r k := by
  subst e
  exact ⟨by show (-p.num).natAbs < _; rw [Int.natAbs_neg]; exact h.1, h.2⟩
theorem rbd_pow {p r : Rat} {k : Nat} (m : Nat) (h : RatBd p k) (e : p ^ m = r) : RatBd r (k * m + 1) := by
  subst e
  have hB : (4294967296 ^ k) ^ m < 4294967296 ^ (k * m + 1) := by
    rw [← Nat.pow_mul, Nat.pow_succ]
    have : 1 ≤ 4294967296 ^ (k * m) := Nat.pow_pos (by omega)
    omega
  constructor
  · rw [Rat.num_pow, Int.natAbs_pow]
    exact Nat.lt_of_le_of_lt (Nat.pow_le_pow_left (Nat.le_of_lt h.1) m) hB
  · rw [Rat.den_pow]
    exact Nat.lt_of_le_of_lt (Nat.pow_le_pow_left (Nat.le_of_lt h.2) m) hB
theorem nbits_bd {N k : Nat} (h : N < 4294967296 ^ k) : nbits N ≤ 32 * k := by
  unfold nbits
  split
  · omega
  · rename_i h0
    have h1 : N < 2 ^ (32 * k) := by rw [Nat.pow_mul]; exact h
    have := (Nat.log2_lt h0).2 h1
    omega
theorem rbd_sub {p q r : Rat} {k1 k2 : Nat} (h1 : RatBd p k1) (h2 : RatBd q k2) (e : p - q = r) : RatBd r (k1 + k2 + 2) :=
  rbd_add h1 (rbd_neg h2 rfl) (by rw [← e, Rat.sub_eq_add_neg])
theorem rbd_int {z : Int} {r : Rat} {k : Nat} (h : z.natAbs < 4294967296 ^ k) (e : (z : Rat) = r) : RatBd r (k + 1) := by
  subst e
  exact ⟨Nat.lt_of_lt_of_le h (Nat.pow_le_pow_right (by omega) (by omega)), Nat.one_lt_pow (by omega) (by omega)⟩
theorem floor_bd {q : Rat} {k : Nat} {f : Int} (h : RatBd q k) (e : q.floor = f) : f.natAbs < 4294967296 ^ (k + 1) := by
  subst e
  rw [Rat.floor_def]
  have h1 : (q.num / (q.den : Int)).natAbs ≤ q.num.natAbs + 1 := by
    have hd := q.den_pos
    have e1 := Int.mul_ediv_add_emod q.num (q.den : Int)
    have e2 := Int.emod_nonneg q.num (b := (q.den : Int)) (by omega)
    have e3 := Int.emod_lt_of_pos q.num (b := (q.den : Int)) (by omega)
    generalize q.num / (q.den : Int) = t at *
    generalize q.num % (q.den : Int) = u at *
    generalize q.num = n at *
    generalize q.den = d at *
    rcases (show t < 0 ∨ 0 ≤ t by omega) with ht | ht
    · have h3 : (d : Int) * t ≤ 1 * t := Int.mul_le_mul_of_nonpos_right (by omega) (by omega)
      rcases (show t + 1 < 0 ∨ 0 ≤ t + 1 by omega) with h4 | h4
      · have h5 : (d : Int) * (t + 1) ≤ 1 * (t + 1) := Int.mul_le_mul_of_nonpos_right (by omega) (by omega)
        rw [Int.mul_add] at h5
        omega
      · omega
    · have h3 : 1 * t ≤ (d : Int) * t := Int.mul_le_mul_of_nonneg_right (by omega) ht
      omega
  have h2 := h.1
  rw [Nat.pow_succ]
  have : 1 ≤ 4294967296 ^ k := Nat.pow_pos (by omega)
  omega
theorem rof_eq {v : Value} {z : Int} {r : Rat} {k : Nat} {w : World} (h : IsInt v z k) (e : (z : Rat) = r) : Calls Tryz.prog 25 #[v] w (RatOut w r) := e ▸ rof_any v z k w h
theorem rcmp_eq {v1 v2 : Value} {p q : Rat} {k : Nat} {c : Int} {w : World} (h1 : IsRat v1 p k) (h2 : IsRat v2 q k) (hk : k ≤ 4000000) (e : cmpQ p q = c) :
    Calls Tryz.prog 23 #[v1, v2] w fun e w' => e = .returned (.int .i64 c) ∧ Below w.heap.size w w' := e ▸ rcmp_any v1 v2 p q k w h1 h2 hk
theorem great1R (sa sb : ByteArray) : greatRB 1 (fun _ => sa) (fun _ => sb) = (decide (24 < sa.size) || decide (24 < sb.size)) := by simp [greatRB, List.range_succ]
theorem great2R (sa sb ta tb : ByteArray) : greatRB 2 (sel [sa, sb] ⟨#[]⟩) (sel [ta, tb] ⟨#[]⟩) = ((decide (24 < sa.size) || decide (24 < ta.size)) || (decide (24 < sb.size) || decide (24 < tb.size))) := by simp [greatRB, sel, List.range_succ]
theorem great3R (sa sb sc ta tb tc : ByteArray) : greatRB 3 (sel [sa, sb, sc] ⟨#[]⟩) (sel [ta, tb, tc] ⟨#[]⟩) = ((decide (24 < sa.size) || decide (24 < ta.size)) || ((decide (24 < sb.size) || decide (24 < tb.size)) || (decide (24 < sc.size) || decide (24 < tc.size)))) := by simp [greatRB, sel, List.range_succ]
theorem rlt_asymm {a b : Rat} (h : a < b) : ¬ b < a := by grind
theorem rlt_irr {a : Rat} : ¬ a < a := by grind
theorem rtri (a b : Rat) : a < b ∨ a = b ∨ b < a := by grind
theorem cmpQ_self (p : Rat) : cmpQ p p = 0 := by unfold cmpQ; rw [if_neg rlt_irr, if_neg rlt_irr]
theorem cmpQ_three (p q : Rat) : (p < q ∧ cmpQ p q = -1) ∨ (p = q ∧ cmpQ p q = 0) ∨ (q < p ∧ cmpQ p q = 1) := by
  unfold cmpQ
  rcases rtri p q with h | h | h
  · exact Or.inl ⟨h, if_pos h⟩
  · subst h; exact Or.inr (Or.inl ⟨rfl, by rw [if_neg rlt_irr, if_neg rlt_irr]⟩)
  · exact Or.inr (Or.inr ⟨h, by rw [if_neg (rlt_asymm h), if_pos h]⟩)
end Go.Proofs.YtcljkdninmldiaaGreatDoor
