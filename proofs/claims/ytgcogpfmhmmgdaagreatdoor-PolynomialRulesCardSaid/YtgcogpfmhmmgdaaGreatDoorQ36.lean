/- The greatest common divisor of two polynomials, as a run of steps: plain facts. No condition. What polynomial.commonDivisor returns: what a run of steps finds. Condition: a run with bounds. What polynomial.Gcd and polynomial.Squarefree return where they succeed. Condition: runs with bounds, a first polynomial whose primitive part has not the lesser degree. -/
import Derived.Test.YtgcogpfmhmmgdaaGreatDoorQ35
import Derived.Test.YtgcogpfmhmmgdaaGreatDoorQ23
import Derived.Deep.RegionHeld3

namespace Go.Proofs.YtgcogpfmhmmgdaaGreatDoor
open Go.RowKit

theorem qD_zero' (d : Int) : qD 0 d = 0 := by
  unfold qD dq
  simp
/-- A polynomial divided by a number. -/
def exqL (L : List Int) (d : Int) : List Int := (List.range (trm L).length).map fun i => qD (co L i) d
theorem exqL_len (L : List Int) (d : Int) : (exqL L d).length = (trm L).length := by unfold exqL; rw [List.length_map, List.length_range]
theorem co_exqL (L : List Int) (d : Int) (i : Nat) : co (exqL L d) i = qD (co L i) d := by
  rcases Nat.lt_or_ge i (trm L).length with h | h
  · unfold exqL
    show (List.map _ _).getD i 0 = _
    rw [List.getD_eq_getElem?_getD, List.getElem?_map, List.getElem?_range h]; rfl
  · rw [co_ge (by rw [exqL_len]; exact h), trm_above L h, qD_zero']
/-- The primitive part. -/
def primL (L : List Int) : List Int := exqL L (cont L)
/-- A run of the steps by which a common divisor is found: each one divides, and takes out a number that is known to divide. -/
inductive CdRun (k : Nat) : Nat → List Int → List Int → Int → Int → List Int → List Int → Prop
  | stop {x y : List Int} {l h : Int} (hy : (trm y).length ≤ 1) (lx : x.length ≤ 100000) (ly : y.length ≤ 100000) (bx : PB x k) (by' : PB y k) : CdRun k 0 x y l h x y
  | step {m n g : Nat} {x y R X Y : List Int} {l h c d h' : Int} (hy : (trm y).length = n + 2) (hx : (trm x).length = n + 2 + g) (hn : n + 2 + g ≤ 200)
      (lx : x.length ≤ 100000) (ly : y.length ≤ 100000) (bx : PB x k) (by' : PB y k) (bl : l.natAbs < 4294967296 ^ k) (bh : h.natAbs < 4294967296 ^ k)
      (hc : co y (n + 1) = c) (hR : (divR y (n + 1) c (g + 1) [] (trm x)).2 = R) (lR : R.length ≤ 100000) (bR : PB R k)
      (hp : ∀ j, j ≤ g → (h ^ j).natAbs < 4294967296 ^ k) (hd : l * h ^ g = d) (bd : d.natAbs < 4294967296 ^ k) (d0 : trm R ≠ [] → d ≠ 0)
      (hq : ∀ j, j ≤ g → (c ^ j).natAbs < 4294967296 ^ k) (hh : (if g = 0 then h else qD (c ^ g) (h ^ (g - 1))) = h') (h0 : g ≠ 0 → h ^ (g - 1) ≠ 0)
      (next : CdRun k m y (exqL R d) c h' X Y) : CdRun k (m + 1) x y l h X Y
theorem CdRun.bounds {k m : Nat} {x y X Y : List Int} {l h : Int} (r : CdRun k m x y l h X Y) : (x.length ≤ 100000 ∧ y.length ≤ 100000) ∧ PB x k ∧ PB y k := by
  cases r with
  | stop hy lx ly bx by' => exact ⟨⟨lx, ly⟩, bx, by'⟩
  | step hy hx hn lx ly bx by' => exact ⟨⟨lx, ly⟩, bx, by'⟩
theorem CdRun.inv {k m : Nat} {x y X Y : List Int} {l h : Int} (r : CdRun k (m + 1) x y l h X Y) : ∃ (n g : Nat) (R : List Int) (c d h' : Int),
    ((trm y).length = n + 2 ∧ (trm x).length = n + 2 + g ∧ n + 2 + g ≤ 200) ∧ (l.natAbs < 4294967296 ^ k ∧ h.natAbs < 4294967296 ^ k) ∧ (co y (n + 1) = c ∧ (divR y (n + 1) c (g + 1) [] (trm x)).2 = R) ∧ (R.length ≤ 100000 ∧ PB R k) ∧
    (∀ j, j ≤ g → (h ^ j).natAbs < 4294967296 ^ k) ∧ (l * h ^ g = d ∧ d.natAbs < 4294967296 ^ k ∧ (trm R ≠ [] → d ≠ 0)) ∧ (∀ j, j ≤ g → (c ^ j).natAbs < 4294967296 ^ k) ∧ (if g = 0 then h else qD (c ^ g) (h ^ (g - 1))) = h' ∧ (g ≠ 0 → h ^ (g - 1) ≠ 0) ∧ CdRun k m y (exqL R d) c h' X Y := by
  cases r with
  | step hy hx hn lx ly bx by' bl bh hc hR lR bR hp hd bd d0 hq hh h0 next => exact ⟨_, _, _, _, _, _, ⟨hy, hx, hn⟩, ⟨bl, bh⟩, ⟨hc, hR⟩, ⟨lR, bR⟩, hp, ⟨hd, bd, d0⟩, hq, hh, h0, next⟩
theorem lead_of {L : List Int} {n : Nat} (h : (trm L).length = n + 1) : lead L = co L n := by
  unfold lead
  rw [if_neg (fun e => by rw [e] at h; cases h), h]; rfl
/-- What is found. -/
def cdL (X Y : List Int) : List Int := if (trm Y).length = 1 then primL Y else primL X
theorem pb_all {L : List Int} {k : Nat} (h : ∀ z ∈ L, z.natAbs < 4294967296 ^ k) : PB L k := fun i => by
  rcases Nat.lt_or_ge i L.length with hi | hi
  · have := co_get hi
    exact h _ (List.mem_of_getElem? this)
  · rw [co_ge hi]; exact Nat.pow_pos (by decide)
theorem PolyC.far {W : World} {base : Nat} {v : Value} {L : List Int} (h : PolyC W base v L) {a : Addr} (ha : ∀ b n c, v = .slice (some ⟨b, 0, none⟩) n c → b ≠ a.block) (u : Value) : PolyC (W.setCell a u) base v L := by
  rcases h with ⟨rfl, rfl⟩ | ⟨b, n, c, rfl, h1, h2, h3, g, s, h4, h5⟩
  · exact Or.inl ⟨rfl, rfl⟩
  · exact Or.inr ⟨b, n, c, rfl, h1, h2, h3, g, s, h4.far (ha b _ _ rfl) u, h5⟩
/-- A polynomial that lies apart from two variables. -/
def PF (p r : Nat) (W : World) (v : Value) (L : List Int) : Prop := (∃ base, PolyC W base v L) ∧ ∀ b n c, v = .slice (some ⟨b, 0, none⟩) n c → b ≠ p ∧ b ≠ r
theorem PF.keep {p r : Nat} {W W' : World} {v : Value} {L : List Int} (h : PF p r W v L) (hb : Below W.heap.size W W') : PF p r W' v L := by
  obtain ⟨⟨base, h1⟩, h2⟩ := h
  exact ⟨⟨base, h1.keep hb⟩, h2⟩
theorem PF.farp {p r o : Nat} {W : World} {v : Value} {L : List Int} (h : PF p r W v L) (u : Value) : PF p r (W.setCell ⟨p, o, none⟩ u) v L := by
  obtain ⟨⟨base, h1⟩, h2⟩ := h
  exact ⟨⟨base, h1.far (fun b n c e => (h2 b n c e).1) u⟩, h2⟩
theorem PF.farr {p r o : Nat} {W : World} {v : Value} {L : List Int} (h : PF p r W v L) (u : Value) : PF p r (W.setCell ⟨r, o, none⟩ u) v L := by
  obtain ⟨⟨base, h1⟩, h2⟩ := h
  exact ⟨⟨base, h1.far (fun b n c e => (h2 b n c e).2) u⟩, h2⟩
theorem PF.at {p r k : Nat} {W : World} {v : Value} {L : List Int} (h : PF p r W v L) (hk : k ≤ 10000000) (hb : PB L k) : PolyAt W v L k := by
  obtain ⟨⟨base, h1⟩, h2⟩ := h
  exact h1.at hk hb
theorem PF.new {p r base : Nat} {W : World} {v : Value} {L : List Int} (h : PolyC W base v L) (hp : p < base) (hr : r < base) : PF p r W v L := by
  refine ⟨⟨base, h⟩, fun b n c e => ?_⟩
  rcases h with ⟨rfl, rfl⟩ | ⟨b', n', c', rfl, h1, h2, h3, -⟩
  · cases e
  · injection e with e1 e2 e3
    injection e1 with e1
    injection e1 with e1
    subst e1
    exact ⟨by omega, by omega⟩
theorem PF.old {p r base : Nat} {W : World} {v : Value} {L : List Int} (h : PolyC W base v L) (hp : W.heap.size ≤ p) (hr : W.heap.size ≤ r) : PF p r W v L := by
  refine ⟨⟨base, h⟩, fun b n c e => ?_⟩
  rcases h with ⟨rfl, rfl⟩ | ⟨b', n', c', rfl, h1, h2, h3, g, s, h4, h5⟩
  · cases e
  · have := h4.lt
    injection e with e1 e2 e3
    injection e1 with e1
    injection e1 with e1
    subst e1
    exact ⟨by omega, by omega⟩
/-- What the loop keeps: two polynomials, and the variables of two numbers. -/
def CB (w : World) (p r : Nat) (vx vy : Value) (x y : List Int) (gl : Bool) (sl : ByteArray) (h : Int) (W : World) : Prop :=
  (Below w.heap.size w W ∧ w.heap.size ≤ p ∧ w.heap.size ≤ r ∧ p ≠ r ∧ p < W.heap.size ∧ r < W.heap.size) ∧ (PF p r W vx x ∧ PF p r W vy y) ∧ IVarF W p gl sl ∧ IVarF W r (sg h) (mg h)
theorem CB.keep {w W X : World} {p r : Nat} {vx vy : Value} {x y : List Int} {gl : Bool} {sl : ByteArray} {h : Int} (c : CB w p r vx vy x y gl sl h W) (b : Below W.heap.size W X) : CB w p r vx vy x y gl sl h X := by
  obtain ⟨⟨c1, c2, c3, c4, c5, c6⟩, ⟨c7, c8⟩, c9, c10⟩ := c
  exact ⟨⟨below_more c1 (Nat.le_refl _) b, c2, c3, c4, Nat.lt_of_lt_of_le c5 b.size, Nat.lt_of_lt_of_le c6 b.size⟩, ⟨c7.keep b, c8.keep b⟩, c9.keep b, c10.keep b⟩
theorem CB.drew {w W : World} {p r : Nat} {vx vy : Value} {x y : List Int} {gl : Bool} {sl : ByteArray} {h : Int} (c : CB w p r vx vy x y gl sl h W) : CB w p r vx vy x y gl sl h W.drew := c.keep (Below.refl _ _).drew
theorem CB.cells {w W : World} {p r : Nat} {vx vy : Value} {x y : List Int} {gl : Bool} {sl : ByteArray} {h : Int} (c : CB w p r vx vy x y gl sl h W) :
    W.cell? ⟨p, 0, none⟩ = some (.bool gl) ∧ W.cell? ⟨p, 1, none⟩ = some (.string sl) ∧ W.cell? ⟨r, 0, none⟩ = some (.bool (sg h)) ∧ W.cell? ⟨r, 1, none⟩ = some (.string (mg h)) := ⟨c.2.2.1.1.1, c.2.2.1.1.2, c.2.2.2.1.1, c.2.2.2.1.2⟩
theorem CB.fr {w W : World} {p r : Nat} {vx vy : Value} {x y : List Int} {gl : Bool} {sl : ByteArray} {h : Int} (c : CB w p r vx vy x y gl sl h W) :
    W.frozen? ⟨p, 0, none⟩ = false ∧ W.frozen? ⟨p, 1, none⟩ = false := ⟨c.2.2.1.2.1, c.2.2.1.2.2⟩
/-- A number stored in the first variable. -/
theorem CB.put {w W : World} {p r : Nat} {vx vy : Value} {x y : List Int} {gl : Bool} {sl : ByteArray} {h : Int} (c : CB w p r vx vy x y gl sl h W) (g' : Bool) (s' : ByteArray) :
    CB w p r vx vy x y g' s' h ((W.setCell ⟨p, 0, none⟩ (.bool g')).setCell ⟨p, 1, none⟩ (.string s')) := by
  obtain ⟨⟨c1, c2, c3, c4, c5, c6⟩, ⟨c7, c8⟩, c9, c10⟩ := c
  refine ⟨⟨(c1.setCell (p := ⟨p, 0, none⟩) c2 _).setCell (p := ⟨p, 1, none⟩) c2 _, c2, c3, c4, by rw [World.size_setCell, World.size_setCell]; exact c5, by rw [World.size_setCell, World.size_setCell]; exact c6⟩, ⟨(c7.farp _).farp _, (c8.farp _).farp _⟩, c9.set g' s', ?_⟩
  refine ⟨(c10.1.far (by exact Ne.symm c4) _).far (by exact Ne.symm c4) _, ?_, ?_⟩
  · rw [World.frozen?_setCell, World.frozen?_setCell]; exact c10.2.1
  · rw [World.frozen?_setCell, World.frozen?_setCell]; exact c10.2.2
/-- Without the second variable. -/
def CL (w : World) (p r : Nat) (vx vy : Value) (x y : List Int) (gl : Bool) (sl : ByteArray) (W : World) : Prop :=
  (Below w.heap.size w W ∧ w.heap.size ≤ p ∧ w.heap.size ≤ r ∧ p ≠ r ∧ p < W.heap.size ∧ r < W.heap.size) ∧ (PF p r W vx x ∧ PF p r W vy y) ∧ IVarF W p gl sl
theorem CL.keep {w W X : World} {p r : Nat} {vx vy : Value} {x y : List Int} {gl : Bool} {sl : ByteArray} (c : CL w p r vx vy x y gl sl W) (b : Below W.heap.size W X) : CL w p r vx vy x y gl sl X := by
  obtain ⟨⟨c1, c2, c3, c4, c5, c6⟩, ⟨c7, c8⟩, c9⟩ := c
  exact ⟨⟨below_more c1 (Nat.le_refl _) b, c2, c3, c4, Nat.lt_of_lt_of_le c5 b.size, Nat.lt_of_lt_of_le c6 b.size⟩, ⟨c7.keep b, c8.keep b⟩, c9.keep b⟩
theorem CL.drew {w W : World} {p r : Nat} {vx vy : Value} {x y : List Int} {gl : Bool} {sl : ByteArray} (c : CL w p r vx vy x y gl sl W) : CL w p r vx vy x y gl sl W.drew := c.keep (Below.refl _ _).drew
theorem CL.lead {w W : World} {p r : Nat} {vx vy : Value} {x y : List Int} {gl : Bool} {sl : ByteArray} (c : CL w p r vx vy x y gl sl W) : W.cell? ⟨p, 0, none⟩ = some (.bool gl) ∧ W.cell? ⟨p, 1, none⟩ = some (.string sl) := c.2.2.1
theorem CL.far {w W : World} {p r : Nat} {vx vy : Value} {x y : List Int} {gl : Bool} {sl : ByteArray} {z : Int} (c : CL w p r vx vy x y gl sl W) : CL w p r vx vy x y gl sl (stI W r z) := by
  obtain ⟨⟨c1, c2, c3, c4, c5, c6⟩, ⟨c7, c8⟩, c9⟩ := c
  have hs : W.heap.size ≤ (stI W r z).heap.size := (stI_below (B := r) (W := W) (q := r) (y := z) (Nat.le_refl _)).size
  refine ⟨⟨c1.trans (stI_below c3), c2, c3, c4, Nat.lt_of_lt_of_le c5 hs, Nat.lt_of_lt_of_le c6 hs⟩, ⟨(c7.farr _).farr _, (c8.farr _).farr _⟩, (c9.1.far (by exact c4) _).far (by exact c4) _, ?_, ?_⟩
  · exact ((World.frozen?_setCell _ _ _ _).trans (World.frozen?_setCell _ _ _ _)).trans c9.2.1
  · exact ((World.frozen?_setCell _ _ _ _).trans (World.frozen?_setCell _ _ _ _)).trans c9.2.2
theorem CB.cl {w W : World} {p r : Nat} {vx vy : Value} {x y : List Int} {gl : Bool} {sl : ByteArray} {h : Int} (c : CB w p r vx vy x y gl sl h W) : CL w p r vx vy x y gl sl W := ⟨c.1, c.2.1, c.2.2.1⟩
end Go.Proofs.YtgcogpfmhmmgdaaGreatDoor

namespace Go.Proofs.YtgcogpfmhmmgdaaGreatDoor
open Go.RowKit Go.Shelf
set_option linter.unusedSimpArgs false
set_option linter.unusedVariables false

theorem prim_out (v : Value) (L : List Int) (k : Nat) (w : World) (h : PolyAt w v L k) (hL : L.length ≤ 100000) (hk : k ≤ 1000000) : Calls Tryz.prog 64 #[v] w (PolyOut w (primL L)) :=
  prim_any v L (primL L) k w h hL hk (exqL_len _ _) (fun i => co_exqL L (cont L) i)
set_option maxRecDepth 100000 in
set_option maxHeartbeats 12800000 in
theorem cd_any (v1 v2 : Value) (L M X Y : List Int) (k m : Nat) (w : World) (h1 : PolyAt w v1 L k) (h2 : PolyAt w v2 M k) (hL : L.length ≤ 100000) (hM : M.length ≤ 100000) (hk : k ≤ 1000) (hk1 : 1 ≤ k)
    (hge : ¬ degZ (primL L) < degZ (primL M)) (run : CdRun k m (primL L) (primL M) 1 1 X Y) :
    Calls Tryz.prog 63 #[v1, v2] w (PolyOut w (cdL X Y)) := by
  have H1 := Lib.hid h1
  have H2 := Lib.hid h2
  have HR := Lib.hid run
  obtain ⟨⟨l1, l2⟩, pb1, pb2⟩ := run.bounds
  have HP1 := Lib.hid pb1
  have HP2 := Lib.hid pb2
  have HD := Lib.hid (decide_eq_false hge)
  obtain ⟨a, ha⟩ : ∃ a, primL L = a := ⟨_, rfl⟩
  obtain ⟨b, hb⟩ : ∃ b, primL M = b := ⟨_, rfl⟩
  have HL1 := Lib.hid (fun W v h => prim_out v L k W h hL (by omega))
  have HL2 := Lib.hid (fun W v h => prim_out v M k W h hM (by omega))
  simp only [ha, hb] at HR HP1 HP2 HD HL1 HL2
  rw [ha] at l1
  rw [hb] at l2
  have hmx : Tryz.prog.follows .mixedOrders = true := by kernel_rfl
  have HO := Lib.hid (fun W => iof_any 1 W (by decide) (by decide))
  clear h1 h2 run pb1 pb2 ha hb hge
  go_enter Tryz.func63, Tryz.ntmps63
  go_wp2_with fail
  refine (HL1.out _ _ H1.out).mono ?_
  rintro e W1 ⟨u1, rfl, PA, b1⟩
  go_wp2_with fail
  refine (HL2.out _ _ (H2.out.keep b1)).mono ?_
  rintro e W2 ⟨u2, rfl, PM, b2⟩
  have PA2 := Lib.hid (PA.keep b2)
  have PM2 := Lib.hid (PM.wider b1.size)
  have B2 := below_more b1 (Nat.le_refl _) b2
  clear PA PM b1 b2
  go_wp2_with fail
  refine (deg_any _ a k _ (PA2.out.at (by omega) HP1.out) (by omega)).mono ?_
  rintro e W3 ⟨rfl, b3⟩
  have PA2 := Lib.hid (PA2.out.keep b3)
  have PM2 := Lib.hid (PM2.out.keep b3)
  have B3 := below_more B2 (Nat.le_refl _) b3
  clear B2 b3
  go_wp2_with fail
  refine (deg_any _ b k _ (PM2.out.at (by omega) HP2.out) (by omega)).mono ?_
  rintro e W4 ⟨rfl, b4⟩
  have PA2 := Lib.hid (PA2.out.keep b4)
  have PM2 := Lib.hid (PM2.out.keep b4)
  have B4 := below_more B3 (Nat.le_refl _) b4
  clear B3 b4
  have hd := HD.out
  go_wp2_with fail
  refine (HO.out _).mono ?_
  rintro e W5 ⟨rfl, b5⟩
  go_wp2_with fail
  refine (HO.out _).mono ?_
  rintro e W6 ⟨rfl, b6⟩
  go_wp2_with fail
  have B6 := below_more (below_more B4 (Nat.le_refl _) b5) (Nat.le_refl _) b6
  have ba := below1 W6 (.cells #[.bool (sg 1), .string (mg 1)] 27)
  have bb := below1 (W6.alloc (.cells #[.bool (sg 1), .string (mg 1)] 27)) (.cells #[.bool (sg 1), .string (mg 1)] 27)
  have K0 := Lib.hid (show CB w W6.heap.size (W6.heap.size + 1) u1 u2 a b (sg 1) (mg 1) 1 _ from
    ⟨⟨below_more (below_more B6 (Nat.le_refl _) ba) (Nat.le_refl _) bb, B6.size, Nat.le_succ_of_le B6.size, Nat.ne_of_lt (Nat.lt_succ_self _), by rw [World.size_alloc, World.size_alloc]; omega, by rw [World.size_alloc, World.size_alloc]; omega⟩,
     ⟨((PF.old ((PA2.out.keep b5).keep b6) (Nat.le_refl _) (Nat.le_succ _)).keep ba).keep bb, ((PF.old ((PM2.out.keep b5).keep b6) (Nat.le_refl _) (Nat.le_succ _)).keep ba).keep bb⟩,
     (IVarF.new W6 (sg 1) (mg 1) 27).keep bb, by have := IVarF.new (W6.alloc (.cells #[.bool (sg 1), .string (mg 1)] 27)) (sg 1) (mg 1) 27; rwa [World.size_alloc] at this⟩)
  have hB1 : (1 : Int).natAbs < 4294967296 ^ k := by
    have : 4294967296 ^ 1 ≤ 4294967296 ^ k := Nat.pow_le_pow_right (by omega) hk1
    show 1 < _
    omega
  have HI1 := Lib.hid (isInt_mg hB1 (by omega))
  clear PA2 PM2 B4 b5 b6 B6 ba bb HL1 HL2 H1 H2 HD HO l1 l2 HP1 HP2 hd hB1
  generalize (W6.alloc (.cells #[.bool (sg 1), .string (mg 1)] 27)).alloc (.cells #[.bool (sg 1), .string (mg 1)] 27) = W8 at *
  have K0 := K0
  generalize W6.heap.size + 1 = r at *
  generalize W6.heap.size = p at *
  go_loopg [5, 6] m (fun q s5 s6 wx => ∃ (x y : List Int) (l h : Int) (gl : Bool) (sl : ByteArray), Hid (CdRun k q x y l h X Y) ∧ Hid (IsInt (.agg #[.bool gl, .string sl]) l k) ∧ CB w p r s5 s6 x y gl sl h wx)
  case atStart => exact ⟨a, b, 1, 1, sg 1, mg 1, HR, HI1, K0.out⟩
  case round =>
    obtain ⟨x, y, l, h, gl, sl, HR, HI, KB⟩ := hrel
    clear K0 HI1
    obtain ⟨⟨lx, ly⟩, bx, by'⟩ := HR.out.bounds
    have HBx := Lib.hid bx
    have HBy := Lib.hid by'
    clear bx by'
    rcases gk with _ | q
    · obtain ⟨e1, e2, hy⟩ : x = X ∧ y = Y ∧ (trm y).length ≤ 1 := by
        cases HR.out with
        | stop hy => exact ⟨rfl, rfl, hy⟩
      subst e1 e2
      have KH := Lib.hid KB
      clear HR HI KB
      have hdeg : ¬ 0 < degZ y := by unfold degZ; omega
      go_wp2_with fail
      refine (deg_any _ y k _ (KH.out.2.1.2.at (by omega) HBy.out) (by omega)).mono ?_
      rintro e V1 ⟨rfl, c1⟩
      have KH := Lib.hid (KH.out.keep c1)
      clear c1
      go_wp2_with fail
      refine (deg_any _ y k _ (KH.out.2.1.2.at (by omega) HBy.out) (by omega)).mono ?_
      rintro e V2 ⟨rfl, c2⟩
      have KH := Lib.hid (KH.out.keep c2)
      clear c2
      by_cases h1 : (trm y).length = 1
      · have hz : (degZ y == 0) = true := by unfold degZ; rw [h1]; rfl
        have HX := Lib.hid (show cdL x y = primL y by unfold cdL; rw [if_pos h1])
        clear h1 hy hdeg
        go_wp2_with fail
        refine (prim_out _ y k _ (KH.out.2.1.2.at (by omega) HBy.out) ly (by omega)).mono ?_
        rintro e V3 ⟨u3, rfl, PC, c3⟩
        go_wp2_with fail
        exact bodyPost_ret (v := u3) (by simp [results, Tryz.results63, go_sem]) rfl ⟨u3, rfl, by rw [HX.out]; exact PC.wider KH.out.1.1.size, below_more KH.out.1.1 (Nat.le_refl _) c3⟩
      · have hz : (degZ y == 0) = false := by rw [beq_eq_false_iff_ne]; unfold degZ; omega
        have HX := Lib.hid (show cdL x y = primL x by unfold cdL; rw [if_neg h1])
        clear h1 hy hdeg
        go_wp2_with fail
        refine (prim_out _ x k _ (KH.out.2.1.1.at (by omega) HBx.out) lx (by omega)).mono ?_
        rintro e V3 ⟨u3, rfl, PC, c3⟩
        go_wp2_with fail
        exact bodyPost_ret (v := u3) (by simp [results, Tryz.results63, go_sem]) rfl ⟨u3, rfl, by rw [HX.out]; exact PC.wider KH.out.1.1.size, below_more KH.out.1.1 (Nat.le_refl _) c3⟩
    · obtain ⟨n, g, R, c, d, h', ⟨hy, hx, hn⟩, ⟨bl, bh⟩, ⟨hc, hR⟩, ⟨lR, bR⟩, hp, ⟨hd, bd, d0⟩, hq, hh, h0, next⟩ := HR.out.inv
      obtain ⟨dy, hdy, hpos, hdy2⟩ : ∃ dy : Int, degZ y = dy ∧ 0 < dy ∧ dy = (n : Int) + 1 := ⟨_, rfl, by unfold degZ; rw [hy]; omega, by unfold degZ; rw [hy]; omega⟩
      obtain ⟨dx, hdx, hgap, hdx2⟩ : ∃ dx : Int, degZ x = dx ∧ dx - dy = (g : Int) ∧ dx ≤ 200 := ⟨_, rfl, by unfold degZ; rw [hx]; omega, by unfold degZ; rw [hx]; omega⟩
      have HDy := Lib.hid hdy
      have HDx := Lib.hid hdx
      have hg200 : g ≤ 200 := by omega
      have hdy3 : dy ≤ 200 := by omega
      have Hn := Lib.hid hn
      clear hdy hdx hdy2
      have HRn := Lib.hid next
      have HBR := Lib.hid bR
      have HLd := Lib.hid (lead_of hy)
      have Hyx := Lib.hid (And.intro hy (And.intro hx (And.intro hc hR)))
      have IH := isInt_mg bh (show k ≤ 10000000 by omega)
      have HPw := Lib.hid (fun W => ppow_any _ h k g k W IH (by omega) hp (by omega))
      have IHg := isInt_mg (hp g (Nat.le_refl _)) (show k ≤ 10000000 by omega)
      have HMl := Lib.hid (fun W => imul_any _ _ _ _ k k W HI.out IHg)
      simp only [hd] at HMl
      have Id := isInt_mg bd (show k ≤ 10000000 by omega)
      have HEx := Lib.hid (fun W v (hv : PolyAt W v R k) => exq_any v _ R (exqL R d) d k W hv Id lR (by omega) d0 (exqL_len _ _) (fun i => co_exqL R d i))
      have HQ := Lib.hid hq
      have HPj := Lib.hid hp
      have HH := Lib.hid hh
      have H0 := Lib.hid h0
      have HLr := Lib.hid lR
      obtain ⟨hgz, hhg⟩ : ∃ hgz : Int, h ^ g = hgz := ⟨_, rfl⟩
      simp only [hhg] at HPw HMl
      have KH := Lib.hid KB
      clear KB HR next bR hy hx hc hR IH IHg Id bl bh hd bd d0 hp hq hh h0 lR hhg
      go_wp2_with fail
      refine (deg_any _ y k _ (KH.out.2.1.2.at (by omega) HBy.out) (by omega)).mono ?_
      rw [HDy.out]
      rintro e V1 ⟨rfl, c1⟩
      have KH := Lib.hid (KH.out.keep c1)
      clear c1
      go_wp2_with fail
      refine (deg_any _ x k _ (KH.out.2.1.1.at (by omega) HBx.out) (by omega)).mono ?_
      rw [HDx.out]
      rintro e V2 ⟨rfl, c2⟩
      have KH := Lib.hid (KH.out.keep c2)
      clear c2
      go_wp2_with fail
      refine (deg_any _ y k _ (KH.out.2.1.2.at (by omega) HBy.out) (by omega)).mono ?_
      rw [HDy.out]
      rintro e V3 ⟨rfl, c3⟩
      have KH := Lib.hid (KH.out.keep c3)
      clear c3
      have hw1 : IntKind.i64.wrap (dx - dy) = (g : Int) := by rw [IntKind.wrap_i64]; omega
      go_wp2_with fail
      refine (pdivide_any _ _ x y (divR y (n + 1) c (g + 1) [] (trm x)).1 R (n + 1) k c _ (KH.out.2.1.1.at (by omega) HBx.out) (KH.out.2.1.2.at (by omega) HBy.out) lx ly (by rw [Hyx.out.2.1]; exact Hn.out) Hyx.out.1 (by have := Hn.out; omega) hk hk1 Hyx.out.2.2.1 (by rw [Hyx.out.2.1, show n + 2 + g - (n + 1) = g + 1 by omega]; exact Prod.ext rfl Hyx.out.2.2.2)).mono ?_
      rintro e V4 ⟨vq, vr, rfl, -, PR, c4⟩
      have KR := Lib.hid (PF.new (p := p) (r := r) PR KH.out.1.2.2.2.2.1 KH.out.1.2.2.2.2.2)
      have KH := Lib.hid (KH.out.keep c4)
      clear c4 PR
      go_upto_region 8 with fail
      have KH := Lib.hid KH.out.drew
      have KR := Lib.hid (KR.out.keep (Below.refl _ _).drew)
      go_region_held3 (fun W => W.cell? ⟨p, 0, none⟩ = some (.bool gl) ∧ W.cell? ⟨p, 1, none⟩ = some (.string sl) ∧ W.cell? ⟨r, 0, none⟩ = some (.bool (sg h)) ∧ W.cell? ⟨r, 1, none⟩ = some (.string (mg h)))
        (with_reducible exact KH.out.cells)
        (first
          | (go_at_call 98; (with_reducible refine (HPw.out _).mono ?_); rintro e Z1 ⟨rfl, bZ1⟩; (have KH := Lib.hid (KH.out.keep bZ1)); (have KR := Lib.hid (KR.out.keep bZ1)))
          | (go_at_call 42; (with_reducible refine (HMl.out _).mono ?_); rintro e Z2 ⟨rfl, bZ2⟩; (have KH := Lib.hid (KH.out.keep bZ2)); (have KR := Lib.hid (KR.out.keep bZ2)))
          | (go_at_call 97; (with_reducible refine (HEx.out _ _ (KR.out.at (by omega) HBR.out)).mono ?_); rintro e Z3 ⟨u9, rfl, P9, bZ3⟩; (have K9 := Lib.hid (PF.new (p := p) (r := r) P9 KH.out.1.2.2.2.2.1 KH.out.1.2.2.2.2.2)); (have KH := Lib.hid (KH.out.keep bZ3))))
      have KC := Lib.hid (show CB w p r u6 u9 y (exqL R d) gl sl h Z3 from ⟨KH.out.1, ⟨KH.out.2.1.2, K9.out⟩, KH.out.2.2⟩)
      clear KH K9 KR bZ1 bZ2 bZ3
      go_wp2_with fail
      refine (lead_any _ y k _ (KC.out.2.1.1.at (by omega) HBy.out) (by omega) (by omega)).mono ?_
      rw [HLd.out, Hyx.out.2.2.1]
      rintro e Z4 ⟨gc, sc, rfl, IC, bZ4⟩
      have KC := Lib.hid (KC.out.keep bZ4)
      have HIC := Lib.hid IC
      obtain ⟨x1, x2, -, -⟩ := KC.out.cells
      obtain ⟨f1, f2⟩ := KC.out.fr
      have KP := Lib.hid (KC.out.put gc sc)
      clear bZ4 IC
      by_cases hg0 : g = 0
      · have HHh := Lib.hid (show h = h' by rw [← HH.out, if_pos hg0])
        have hng : ¬ (0 : Int) < (g : Int) := by omega
        clear HH hg0
        go_wp2_with fail
        go_roundg q
        case measure => omega
        case rel => exact ⟨y, exqL R d, c, h', gc, sc, HRn, HIC, by rw [← HHh.out]; exact KP.out⟩
      · have hgp : (0 : Int) < (g : Int) := by omega
        obtain ⟨g1, hg1⟩ : ∃ g1, g = g1 + 1 := ⟨g - 1, by omega⟩
        have hg2 : (g : Int) - 1 = (g1 : Int) := by omega
        have hw2 : IntKind.i64.wrap ((g : Int) - 1) = (g1 : Int) := by rw [IntKind.wrap_i64]; omega
        have hw3 : IntKind.i64.wrap (g1 : Int) = (g1 : Int) := by rw [IntKind.wrap_i64]; omega
        have hge : g - 1 = g1 := by omega
        have HHq := Lib.hid (show qD (c ^ g) (h ^ g1) = h' by rw [← HH.out, if_neg hg0, hge])
        have HN0 := Lib.hid (show h ^ g1 ≠ 0 by have := H0.out hg0; rwa [hge] at this)
        have IHb : IsInt (.agg #[.bool (sg h), .string (mg h)]) h k := isInt_mg (by have := HPj.out 1 (by omega); rwa [Int.pow_one] at this) (by omega)
        have HP1 := Lib.hid (fun W => ppow_any _ c k g k W HIC.out (by omega) HQ.out (by omega))
        have HP2 := Lib.hid (fun W => ppow_any _ h k g1 k W IHb (by omega) (fun j hj => HPj.out j (by omega)) (by omega))
        have HDv := Lib.hid (fun W => idiv_all _ _ _ _ k k W (isInt_mg (HQ.out g (Nat.le_refl _)) (show k ≤ 10000000 by omega)) (isInt_mg (HPj.out g1 (by omega)) (show k ≤ 10000000 by omega)) HN0.out)
        simp only [HHq.out] at HDv
        obtain ⟨cz, hcz⟩ : ∃ cz : Int, c ^ g = cz := ⟨_, rfl⟩
        obtain ⟨hz, hhz⟩ : ∃ hz : Int, h ^ g1 = hz := ⟨_, rfl⟩
        simp only [hcz, hhz] at HP1 HP2 HDv
        obtain ⟨rz, hrz⟩ : ∃ rz : Int, rD cz hz = rz := ⟨_, rfl⟩
        simp only [hrz] at HDv
        have hlate : Tryz.prog.follows .lateStoresUnsure = Tryz.prog.follows .lateStoresUnsure := rfl
        clear HH H0 HN0 IHb hcz hhz hrz hlate hg1 hge hg0
        go_upto_region 11 with fail
        simp only [decide_eq_true (show 0 < g by omega)]
        have KQ := KP.out.drew
        have KB := KQ.cl
        have IVH : VW r h h' (Array.getD (Array.replicate 13 false) 3 false = false) (Array.getD (Array.replicate 13 false) 12 false = true) ((Z4.setCell ⟨p, 0, none⟩ (.bool gc)).setCell ⟨p, 1, none⟩ (.string sc)).drew := ⟨⟨h, KQ.2.2.2.1, KQ.2.2.2.2⟩, fun _ => KQ.2.2.2.1, fun h => absurd h (by decide)⟩
        clear KQ KP KC x1 x2 f1 f2
        generalize (Z4.setCell ⟨p, 0, none⟩ (.bool gc)).setCell ⟨p, 1, none⟩ (.string sc) = Z5 at *
        refine region_inv' (J := (fun L act wx => ∃ u52 u53 u54 u55 u56 u57 u58 u59 u51 u60 u61 u62, act = { tmps := #[v1, v2, undef, undef, .slice none 0 0, u6, u9, .pointer (some ⟨p, 0, none⟩), .pointer (some ⟨r, 0, none⟩), .int .i64 (g : Int), vq, vr, v1, u1, v2, u2, u1, .int .i64 (degZ a), u2, .int .i64 (degZ b), .bool false, undef, undef, .agg #[.bool (sg 1), .string (mg 1)], .agg #[.bool (sg 1), .string (mg 1)], u6, .int .i64 dy, .bool true, u5, .int .i64 dx, u6, .int .i64 dy, .int .i64 (g : Int), .tuple #[vq, vr], u5, u6, .tuple #[vq, vr], vq, vr, u6, vr, .agg #[.bool gl, .string sl], .agg #[.bool (sg h), .string (mg h)], .int .i64 (g : Int), .agg #[.bool (sg hgz), .string (mg hgz)], .agg #[.bool (sg d), .string (mg d)], u9, u6, .agg #[.bool gc, .string sc], .int .i64 (g : Int), .bool true, u51, u52, u53, u54, u55, u56, u57, u58, u59, u60, u61, u62, undef, undef, undef, undef, undef, undef, undef], defers := [] } ∧ CL w p r u6 u9 y (exqL R d) gc sc wx ∧
      (L.getD 0 false = true → u52 = .agg #[.bool gc, .string sc]) ∧ (L.getD 1 false = true → u53 = .int .i64 (g : Int)) ∧ (L.getD 2 false = true → u54 = .agg #[.bool (sg cz), .string (mg cz)]) ∧ (L.getD 3 false = true → u55 = .agg #[.bool (sg h), .string (mg h)]) ∧ (L.getD 4 false = true → u56 = .int .i64 (g : Int)) ∧ (L.getD 5 false = true → u57 = .int .i64 (g1 : Int)) ∧ (L.getD 6 false = true → u58 = .agg #[.bool (sg hz), .string (mg hz)]) ∧ (L.getD 7 false = true → u59 = .tuple #[.agg #[.bool (sg h'), .string (mg h')], .agg #[.bool (sg rz), .string (mg rz)], .int .i64 0]) ∧ (L.getD 8 false = true → u51 = .tuple #[.agg #[.bool (sg h'), .string (mg h')], .agg #[.bool (sg rz), .string (mg rz)], .int .i64 0]) ∧ (L.getD 9 false = true → u60 = .agg #[.bool (sg h'), .string (mg h')]) ∧ (L.getD 10 false = true → u61 = .agg #[.bool (sg rz), .string (mg rz)]) ∧ (L.getD 11 false = true → u62 = .int .i64 0) ∧ VW (r) (h) (h') (L.getD 3 false = false) (L.getD 12 false = true) wx)) hmx (by kernel_rfl) ?_ ?_ ?_
        · exact ⟨_, _, _, _, _, _, _, _, _, _, _, _, rfl, KB, fun h => absurd h (by decide), fun h => absurd h (by decide), fun h => absurd h (by decide), fun h => absurd h (by decide), fun h => absurd h (by decide), fun h => absurd h (by decide), fun h => absurd h (by decide), fun h => absurd h (by decide), fun h => absurd h (by decide), fun h => absurd h (by decide), fun h => absurd h (by decide), fun h => absurd h (by decide), IVH⟩
        · intro i hi L a wx hl hw ⟨u52, u53, u54, u55, u56, u57, u58, u59, u51, u60, u61, u62, ha, lo, c0, c1, c2, c3, c4, c5, c6, c7, c8, c9, c10, c11, VH⟩
          subst ha
          clear KB
          have hi' : i = 0 ∨ i = 1 ∨ i = 2 ∨ i = 3 ∨ i = 4 ∨ i = 5 ∨ i = 6 ∨ i = 7 ∨ i = 8 ∨ i = 9 ∨ i = 10 ∨ i = 11 ∨ i = 12 := by
            have : i < 13 := hi
            omega
          rcases hi' with rfl | rfl | rfl | rfl | rfl | rfl | rfl | rfl | rfl | rfl | rfl | rfl | rfl
          · refine stepJ (i := 0) rfl (fun K hK => ?_)
            obtain ⟨x1, x2⟩ := lo.lead
            go_simp
            refine hK.out _ _ ⟨_, u53, u54, u55, u56, u57, u58, u59, u51, u60, u61, u62, rfl, lo, fun _ => rfl, fun h => c1 (fl (by decide) h), fun h => c2 (fl (by decide) h), fun h => c3 (fl (by decide) h), fun h => c4 (fl (by decide) h), fun h => c5 (fl (by decide) h), fun h => c6 (fl (by decide) h), fun h => c7 (fl (by decide) h), fun h => c8 (fl (by decide) h), fun h => c9 (fl (by decide) h), fun h => c10 (fl (by decide) h), fun h => c11 (fl (by decide) h), (VH.imp (flF (by decide)) (fl (by decide)))⟩
          · refine stepJ (i := 1) rfl (fun K hK => ?_)
            go_simp
            refine hK.out _ _ ⟨u52, _, u54, u55, u56, u57, u58, u59, u51, u60, u61, u62, rfl, lo, fun h => c0 (fl (by decide) h), fun _ => rfl, fun h => c2 (fl (by decide) h), fun h => c3 (fl (by decide) h), fun h => c4 (fl (by decide) h), fun h => c5 (fl (by decide) h), fun h => c6 (fl (by decide) h), fun h => c7 (fl (by decide) h), fun h => c8 (fl (by decide) h), fun h => c9 (fl (by decide) h), fun h => c10 (fl (by decide) h), fun h => c11 (fl (by decide) h), (VH.imp (flF (by decide)) (fl (by decide)))⟩
          · refine stepJ (i := 2) rfl (fun K hK => ?_)
            obtain rfl := c0 (hw 0 (by kernel_rfl))
            obtain rfl := c1 (hw 1 (by kernel_rfl))
            go_simp
            go_at_call 98
            refine (HP1.out _).mono ?_
            rintro e W2 ⟨rfl, b2⟩
            go_wp2_with fail
            refine hK.out _ _ ⟨_, _, _, u55, u56, u57, u58, u59, u51, u60, u61, u62, rfl, lo.keep b2, fun _ => rfl, fun _ => rfl, fun _ => rfl, fun h => c3 (fl (by decide) h), fun h => c4 (fl (by decide) h), fun h => c5 (fl (by decide) h), fun h => c6 (fl (by decide) h), fun h => c7 (fl (by decide) h), fun h => c8 (fl (by decide) h), fun h => c9 (fl (by decide) h), fun h => c10 (fl (by decide) h), fun h => c11 (fl (by decide) h), (VH.imp (flF (by decide)) (fl (by decide))).keep b2⟩
          · refine stepJ (i := 3) rfl (fun K hK => ?_)
            obtain ⟨x1, x2⟩ := VH.2.1 hl
            go_simp
            refine hK.out _ _ ⟨u52, u53, u54, _, u56, u57, u58, u59, u51, u60, u61, u62, rfl, lo, fun h => c0 (fl (by decide) h), fun h => c1 (fl (by decide) h), fun h => c2 (fl (by decide) h), fun _ => rfl, fun h => c4 (fl (by decide) h), fun h => c5 (fl (by decide) h), fun h => c6 (fl (by decide) h), fun h => c7 (fl (by decide) h), fun h => c8 (fl (by decide) h), fun h => c9 (fl (by decide) h), fun h => c10 (fl (by decide) h), fun h => c11 (fl (by decide) h), (VH.imp (fun _ => hl) (fl (by decide)))⟩
          · refine stepJ (i := 4) rfl (fun K hK => ?_)
            go_simp
            refine hK.out _ _ ⟨u52, u53, u54, u55, _, u57, u58, u59, u51, u60, u61, u62, rfl, lo, fun h => c0 (fl (by decide) h), fun h => c1 (fl (by decide) h), fun h => c2 (fl (by decide) h), fun h => c3 (fl (by decide) h), fun _ => rfl, fun h => c5 (fl (by decide) h), fun h => c6 (fl (by decide) h), fun h => c7 (fl (by decide) h), fun h => c8 (fl (by decide) h), fun h => c9 (fl (by decide) h), fun h => c10 (fl (by decide) h), fun h => c11 (fl (by decide) h), (VH.imp (flF (by decide)) (fl (by decide)))⟩
          · refine stepJ (i := 5) rfl (fun K hK => ?_)
            obtain rfl := c4 (hw 4 (by kernel_rfl))
            go_simp
            refine hK.out _ _ ⟨u52, u53, u54, u55, _, _, u58, u59, u51, u60, u61, u62, rfl, lo, fun h => c0 (fl (by decide) h), fun h => c1 (fl (by decide) h), fun h => c2 (fl (by decide) h), fun h => c3 (fl (by decide) h), fun _ => rfl, fun _ => rfl, fun h => c6 (fl (by decide) h), fun h => c7 (fl (by decide) h), fun h => c8 (fl (by decide) h), fun h => c9 (fl (by decide) h), fun h => c10 (fl (by decide) h), fun h => c11 (fl (by decide) h), (VH.imp (flF (by decide)) (fl (by decide)))⟩
          · refine stepJ (i := 6) rfl (fun K hK => ?_)
            obtain rfl := c3 (hw 3 (by kernel_rfl))
            obtain rfl := c5 (hw 5 (by kernel_rfl))
            go_simp
            go_at_call 98
            refine (HP2.out _).mono ?_
            rintro e W2 ⟨rfl, b2⟩
            go_wp2_with fail
            refine hK.out _ _ ⟨u52, u53, u54, _, u56, _, _, u59, u51, u60, u61, u62, rfl, lo.keep b2, fun h => c0 (fl (by decide) h), fun h => c1 (fl (by decide) h), fun h => c2 (fl (by decide) h), fun _ => rfl, fun h => c4 (fl (by decide) h), fun _ => rfl, fun _ => rfl, fun h => c7 (fl (by decide) h), fun h => c8 (fl (by decide) h), fun h => c9 (fl (by decide) h), fun h => c10 (fl (by decide) h), fun h => c11 (fl (by decide) h), (VH.imp (flF (by decide)) (fl (by decide))).keep b2⟩
          · refine stepJ (i := 7) rfl (fun K hK => ?_)
            obtain rfl := c2 (hw 2 (by kernel_rfl))
            obtain rfl := c6 (hw 6 (by kernel_rfl))
            go_simp
            go_at_call 90
            refine (HDv.out _).mono ?_
            rintro e W2 ⟨rfl, b2⟩
            go_wp2_with fail
            refine hK.out _ _ ⟨u52, u53, _, u55, u56, u57, _, _, u51, u60, u61, u62, rfl, lo.keep b2, fun h => c0 (fl (by decide) h), fun h => c1 (fl (by decide) h), fun _ => rfl, fun h => c3 (fl (by decide) h), fun h => c4 (fl (by decide) h), fun h => c5 (fl (by decide) h), fun _ => rfl, fun _ => rfl, fun h => c8 (fl (by decide) h), fun h => c9 (fl (by decide) h), fun h => c10 (fl (by decide) h), fun h => c11 (fl (by decide) h), (VH.imp (flF (by decide)) (fl (by decide))).keep b2⟩
          · refine stepJ (i := 8) rfl (fun K hK => ?_)
            obtain rfl := c7 (hw 7 (by kernel_rfl))
            go_simp
            refine hK.out _ _ ⟨u52, u53, u54, u55, u56, u57, u58, _, _, u60, u61, u62, rfl, lo, fun h => c0 (fl (by decide) h), fun h => c1 (fl (by decide) h), fun h => c2 (fl (by decide) h), fun h => c3 (fl (by decide) h), fun h => c4 (fl (by decide) h), fun h => c5 (fl (by decide) h), fun h => c6 (fl (by decide) h), fun _ => rfl, fun _ => rfl, fun h => c9 (fl (by decide) h), fun h => c10 (fl (by decide) h), fun h => c11 (fl (by decide) h), (VH.imp (flF (by decide)) (fl (by decide)))⟩
          · refine stepJ (i := 9) rfl (fun K hK => ?_)
            obtain rfl := c8 (hw 8 (by kernel_rfl))
            go_simp
            refine hK.out _ _ ⟨u52, u53, u54, u55, u56, u57, u58, u59, _, _, u61, u62, rfl, lo, fun h => c0 (fl (by decide) h), fun h => c1 (fl (by decide) h), fun h => c2 (fl (by decide) h), fun h => c3 (fl (by decide) h), fun h => c4 (fl (by decide) h), fun h => c5 (fl (by decide) h), fun h => c6 (fl (by decide) h), fun h => c7 (fl (by decide) h), fun _ => rfl, fun _ => rfl, fun h => c10 (fl (by decide) h), fun h => c11 (fl (by decide) h), (VH.imp (flF (by decide)) (fl (by decide)))⟩
          · refine stepJ (i := 10) rfl (fun K hK => ?_)
            obtain rfl := c8 (hw 8 (by kernel_rfl))
            go_simp
            refine hK.out _ _ ⟨u52, u53, u54, u55, u56, u57, u58, u59, _, u60, _, u62, rfl, lo, fun h => c0 (fl (by decide) h), fun h => c1 (fl (by decide) h), fun h => c2 (fl (by decide) h), fun h => c3 (fl (by decide) h), fun h => c4 (fl (by decide) h), fun h => c5 (fl (by decide) h), fun h => c6 (fl (by decide) h), fun h => c7 (fl (by decide) h), fun _ => rfl, fun h => c9 (fl (by decide) h), fun _ => rfl, fun h => c11 (fl (by decide) h), (VH.imp (flF (by decide)) (fl (by decide)))⟩
          · refine stepJ (i := 11) rfl (fun K hK => ?_)
            obtain rfl := c8 (hw 8 (by kernel_rfl))
            go_simp
            refine hK.out _ _ ⟨u52, u53, u54, u55, u56, u57, u58, u59, _, u60, u61, _, rfl, lo, fun h => c0 (fl (by decide) h), fun h => c1 (fl (by decide) h), fun h => c2 (fl (by decide) h), fun h => c3 (fl (by decide) h), fun h => c4 (fl (by decide) h), fun h => c5 (fl (by decide) h), fun h => c6 (fl (by decide) h), fun h => c7 (fl (by decide) h), fun _ => rfl, fun h => c9 (fl (by decide) h), fun h => c10 (fl (by decide) h), fun _ => rfl, (VH.imp (flF (by decide)) (fl (by decide)))⟩
          · refine stepJ (i := 12) rfl (fun K hK => ?_)
            obtain rfl := c9 (hw 9 (by kernel_rfl))
            obtain ⟨z9, ⟨y1, y2⟩, y3, y4⟩ := id VH.1
            go_simp
            refine hK.out _ _ ⟨u52, u53, u54, u55, u56, u57, u58, u59, u51, _, u61, u62, rfl, lo.far, fun h => c0 (fl (by decide) h), fun h => c1 (fl (by decide) h), fun h => c2 (fl (by decide) h), fun h => c3 (fl (by decide) h), fun h => c4 (fl (by decide) h), fun h => c5 (fl (by decide) h), fun h => c6 (fl (by decide) h), fun h => c7 (fl (by decide) h), fun h => c8 (fl (by decide) h), fun _ => rfl, fun h => c10 (fl (by decide) h), fun h => c11 (fl (by decide) h), VH.put (fun h => absurd ((hw 3 (by kernel_rfl)).symm.trans (flF (by decide) h)) (by decide))⟩
        · rintro L a wx hall ⟨u52, u53, u54, u55, u56, u57, u58, u59, u51, u60, u61, u62, rfl, lo, c0, c1, c2, c3, c4, c5, c6, c7, c8, c9, c10, c11, VH⟩
          obtain rfl := c0 (hall 0 (by decide))
          obtain rfl := c1 (hall 1 (by decide))
          obtain rfl := c2 (hall 2 (by decide))
          obtain rfl := c3 (hall 3 (by decide))
          obtain rfl := c4 (hall 4 (by decide))
          obtain rfl := c5 (hall 5 (by decide))
          obtain rfl := c6 (hall 6 (by decide))
          obtain rfl := c7 (hall 7 (by decide))
          obtain rfl := c8 (hall 8 (by decide))
          obtain rfl := c9 (hall 9 (by decide))
          obtain rfl := c10 (hall 10 (by decide))
          obtain rfl := c11 (hall 11 (by decide))
          have WVH := VH.2.2 (hall 12 (by decide))
          have XVH := VH.1
          clear hall c0 c1 c2 c3 c4 c5 c6 c7 c8 c9 c10 c11
          have KN := Lib.hid (show CB w p r u6 u9 y (exqL R d) gc sc h' wx from ⟨lo.1, lo.2.1, lo.2.2, WVH, by obtain ⟨z', -, hf⟩ := XVH; exact hf⟩)
          clear lo KB IVH WVH XVH
          go_wp2
          go_roundg q
          case measure => omega
          case rel => exact ⟨y, exqL R d, c, h', gc, sc, HRn, HIC, KN.out⟩
end Go.Proofs.YtgcogpfmhmmgdaaGreatDoor

namespace Go.Proofs.YtgcogpfmhmmgdaaGreatDoor
open Go.RowKit Go.Shelf
set_option linter.unusedSimpArgs false
set_option linter.unusedVariables false

set_option maxRecDepth 100000 in
set_option maxHeartbeats 3200000 in
theorem pGcd_any (v1 v2 : Value) (L M X Y : List Int) (k m : Nat) (w : World) (h1 : PolyAt w v1 L k) (h2 : PolyAt w v2 M k) (hL : L.length ≤ 100000) (hM : M.length ≤ 100000) (hk : k ≤ 1000) (hk1 : 1 ≤ k)
    (hl : (trm L).length ≤ 65) (hm : (trm M).length ≤ 65) (hge : ¬ degZ (primL L) < degZ (primL M)) (run : CdRun k m (primL L) (primL M) 1 1 X Y) :
    Calls Tryz.prog 31 #[v1, v2] w fun e w' => ∃ v, e = .returned (.tuple #[v, .int .i64 0]) ∧ PolyC w' w.heap.size v (cdL X Y) ∧ Below w.heap.size w w' := by
  have HD1 := Lib.hid (show decide (64 < degZ L) = false from decide_eq_false (by unfold degZ; omega))
  have HD2 := Lib.hid (show decide (64 < degZ M) = false from decide_eq_false (by unfold degZ; omega))
  have HR := Lib.hid (And.intro hge run)
  have H1 := Lib.hid h1
  have H2 := Lib.hid h2
  clear hge run hl hm
  go_enter Tryz.func31, Tryz.ntmps31
  go_wp2_with fail
  refine (large_any _ L k _ h1 (by omega)).mono ?_
  rw [HD1.out]
  rintro e W1 ⟨rfl, b1⟩
  go_wp2_with fail
  refine (large_any _ M k _ (H2.out.keep b1) (by omega)).mono ?_
  rw [HD2.out]
  rintro e W2 ⟨rfl, b2⟩
  have B2 := below_more b1 (Nat.le_refl _) b2
  go_wp2_with fail
  refine (cd_any _ _ L M X Y k m _ (H1.out.keep2 B2) (H2.out.keep2 B2) hL hM hk hk1 (Int.not_lt.2 HR.out.1) HR.out.2).mono ?_
  rintro e W3 ⟨u, rfl, PC, b3⟩
  have PC := PC.wider B2.size
  have B3 := below_more B2 (Nat.le_refl _) b3
  go_wp2
  exact bodyPost_ret (v := .tuple #[u, .int .i64 0]) (by simp [results, Tryz.results31, go_sem]) rfl ⟨u, rfl, PC, B3⟩
/-- The derivative. -/
def derL (L : List Int) : List Int := (List.range ((trm L).length - 1)).map fun i => co L (i + 1) * ((i : Int) + 1)
theorem derL_len (L : List Int) : (derL L).length = (trm L).length - 1 := by unfold derL; rw [List.length_map, List.length_range]
theorem co_derL (L : List Int) (i : Nat) (h : i < (derL L).length) : co (derL L) i = co L (i + 1) * ((i : Int) + 1) := by
  rw [derL_len] at h
  unfold derL
  show (List.map _ _).getD i 0 = _
  rw [List.getD_eq_getElem?_getD, List.getElem?_map, List.getElem?_range h]; rfl
set_option maxRecDepth 100000 in
set_option maxHeartbeats 3200000 in
theorem psqf_any (v1 : Value) (L X Y Q R : List Int) (k m n : Nat) (c : Int) (w : World) (h1 : PolyAt w v1 L k) (hL : L.length ≤ 100000) (hk : k ≤ 1000) (hk1 : 1 ≤ k)
    (hl : (trm L).length ≤ 65) (hl0 : (trm L).length ≠ 0) (hb : PB (derL L) k) (hge : ¬ degZ (primL L) < degZ (primL (derL L))) (run : CdRun k m (primL L) (primL (derL L)) 1 1 X Y)
    (hG : (trm (cdL X Y)).length = n + 1) (hGl : (cdL X Y).length ≤ 100000) (hGb : PB (cdL X Y) k) (hn : n < 200) (hc : co (cdL X Y) n = c) (hdiv : divR (cdL X Y) n c ((trm L).length - n) [] (trm L) = (Q, R)) (hQ : PB Q k) (hQl : Q.length ≤ 100000) :
    Calls Tryz.prog 32 #[v1] w fun e w' => ∃ v, e = .returned (.tuple #[v, .int .i64 0]) ∧ PolyC w' w.heap.size v (primL Q) ∧ Below w.heap.size w w' := by
  have HD1 := Lib.hid (show decide (64 < degZ L) = false from decide_eq_false (by unfold degZ; omega))
  obtain ⟨dl, hdl, hdl0⟩ : ∃ dl : Int, degZ L = dl ∧ ¬ dl < 0 := ⟨_, rfl, by unfold degZ; omega⟩
  have HDl := Lib.hid hdl
  have HR := Lib.hid (And.intro hge run)
  have HG := Lib.hid (And.intro hG (And.intro hc hdiv))
  have HGb := Lib.hid hGb
  have HQ := Lib.hid hQ
  have HB := Lib.hid hb
  have H1 := Lib.hid h1
  have hdlen : (derL L).length ≤ 100000 := by rw [derL_len]; omega
  have HLl := Lib.hid hl
  clear hge run hG hc hdiv hGb hQ hb hdl hl hl0
  go_enter Tryz.func32, Tryz.ntmps32
  go_wp2_with fail
  refine (large_any _ L k _ h1 (by omega)).mono ?_
  rw [HD1.out]
  rintro e W1 ⟨rfl, b1⟩
  go_wp2_with fail
  refine (deg_any _ L k _ (H1.out.keep b1) (by omega)).mono ?_
  rw [HDl.out]
  rintro e W2 ⟨rfl, b2⟩
  have B2 := below_more b1 (Nat.le_refl _) b2
  go_wp2_with fail
  refine (deriv_any _ L (derL L) k _ (H1.out.keep2 B2) hL (by omega) (derL_len L) (fun i hi => co_derL L i hi)).mono ?_
  rintro e W3 ⟨ud, rfl, PD, b3⟩
  have B3 := below_more B2 (Nat.le_refl _) b3
  go_wp2_with fail
  refine (cd_any _ _ L (derL L) X Y k m _ (H1.out.keep2 B3) (PD.at (by omega) HB.out) hL hdlen hk hk1 (Int.not_lt.2 HR.out.1) HR.out.2).mono ?_
  rintro e W4 ⟨ug, rfl, PG, b4⟩
  have B4 := below_more B3 (Nat.le_refl _) b4
  go_wp2_with fail
  refine (pdivide_any _ _ L (cdL X Y) Q R n k c _ (H1.out.keep2 B4) (PG.at (by omega) HGb.out) hL hGl (by have := HLl.out; omega) HG.out.1 hn hk hk1 HG.out.2.1 HG.out.2.2).mono ?_
  rintro e W5 ⟨uq, ur, rfl, PQ, PR, b5⟩
  have B5 := below_more B4 (Nat.le_refl _) b5
  go_wp2_with fail
  refine (prim_out _ Q k _ (PQ.at (by omega) HQ.out) hQl (by omega)).mono ?_
  rintro e W6 ⟨u, rfl, PC, b6⟩
  have PC := PC.wider B5.size
  have B6 := below_more B5 (Nat.le_refl _) b6
  go_wp2
  exact bodyPost_ret (v := .tuple #[u, .int .i64 0]) (by simp [results, Tryz.results32, go_sem]) rfl ⟨u, rfl, PC, B6⟩
/-! The runs of the chapter's examples. -/
theorem run_gcd : CdRun 1 1 [-1, 0, 1] [-1, 1] 1 1 [-1, 1] [] :=
  .step (n := 0) (g := 1) (R := []) (c := 1) (d := 1) (h' := 1) (by decide) (by decide) (by decide) (by decide) (by decide) (pb_all (by decide)) (pb_all (by decide)) (by decide) (by decide) (by decide) (by decide) (by decide) (pb_all (by decide))
    (fun j hj => by rcases j with _ | _ | j; decide; decide; omega) (by decide) (by decide) (fun h => absurd rfl h) (fun j hj => by rcases j with _ | _ | j; decide; decide; omega) (by decide) (fun _ => by decide)
    (.stop (by decide) (by decide) (by decide) (pb_all (by decide)) (pb_all (by decide)))
theorem small2 {z : Int} (h1 : (z ^ 0).natAbs < 4294967296 ^ 1) (h2 : (z ^ 1).natAbs < 4294967296 ^ 1) : ∀ j, j ≤ 1 → (z ^ j).natAbs < 4294967296 ^ 1 := fun j hj => by
  rcases j with _ | _ | j
  · exact h1
  · exact h2
  · omega
theorem run_sqf : CdRun 1 2 [0, 0, -1, 1] [0, -2, 3] 1 1 [0, -2] [] :=
  .step (n := 1) (g := 1) (R := [0, -2]) (c := 3) (d := 1) (h' := 3) (by decide) (by decide) (by decide) (by decide) (by decide) (pb_all (by decide)) (pb_all (by decide)) (by decide) (by decide) (by decide) (by decide) (by decide) (pb_all (by decide))
    (small2 (by decide) (by decide)) (by decide) (by decide) (fun _ => by decide) (small2 (by decide) (by decide)) (by decide) (fun _ => by decide)
    (.step (n := 0) (g := 1) (R := []) (c := -2) (d := 9) (h' := -2) (by decide) (by decide) (by decide) (by decide) (by decide) (pb_all (by decide)) (pb_all (by decide)) (by decide) (by decide) (by decide) (by decide) (by decide) (pb_all (by decide))
      (small2 (by decide) (by decide)) (by decide) (by decide) (fun h => absurd rfl h) (small2 (by decide) (by decide)) (by decide) (fun _ => by decide)
      (.stop (by decide) (by decide) (by decide) (pb_all (by decide)) (pb_all (by decide))))
theorem ex_prim1 : primL [-2, 0, 2] = [-1, 0, 1] := by decide
theorem ex_prim2 : primL [-3, 3] = [-1, 1] := by decide
theorem ex_prim3 : primL [0, 0, -4, 4] = [0, 0, -1, 1] := by decide
theorem ex_der : derL [0, 0, -4, 4] = [0, -8, 12] := by decide
theorem ex_prim4 : primL [0, -8, 12] = [0, -2, 3] := by decide
theorem ex_cd1 : cdL [-1, 1] [] = [-1, 1] := by decide
theorem ex_cd2 : cdL [0, -2] [] = [0, 1] := by decide
theorem ex_div1 : divR [-1, 1] 1 1 3 [] [1, -2, 0, 1] = ([-1, 1, 1], []) := by decide
theorem ex_div2 : divR [0, 1] 1 1 3 [] [0, 0, -4, 4] = ([0, -4, 4], []) := by decide
theorem ex_prim5 : primL [0, -4, 4] = [0, -1, 1] := by decide
end Go.Proofs.YtgcogpfmhmmgdaaGreatDoor
