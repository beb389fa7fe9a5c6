/- What the closure of rational.commonTerms does with a loop whose rounds go on with the convergents. Condition: the integers have at most 10^6 digits to the base 2^32. -/
import Derived.Test.YtabmhckgdncjlaaGreatDoorQ31

namespace Go.Proofs.YtabmhckgdncjlaaGreatDoor
open Go.RowKit Go.Shelf
attribute [local go_sem] Oper.semAt_some
set_option linter.unusedSimpArgs false
set_option linter.unusedVariables false

/-- A variable of the type api.Rat with these integers. -/
def RV (W : World) (p : Nat) (x y : Int) : Prop := RIn W p (sg x) (mg x) (sg y) (mg y) ∧ W.frozen? ⟨p, 0, none⟩ = false ∧ W.frozen? ⟨p, 1, none⟩ = false ∧ W.frozen? ⟨p, 2, none⟩ = false ∧ W.frozen? ⟨p, 3, none⟩ = false
theorem RV.keep {W W' : World} {p : Nat} {x y : Int} (h : RV W p x y) (hb : Below W.heap.size W W') : RV W' p x y :=
  ⟨h.1.keep hb, frozen_keep h.1.1 h.2.1 hb, frozen_keep h.1.2.1 h.2.2.1 hb, frozen_keep h.1.2.2.1 h.2.2.2.1 hb, frozen_keep h.1.2.2.2 h.2.2.2.2 hb⟩
theorem RV.put {W : World} {b l : Nat} {r : Loop} {x y : Int} (h : RV W b x y) (hl : W.heap[l]? = some (.loop r)) (o : Obj) : RV (W.putObj l o) b x y :=
  ⟨⟨cell_put hl o _ h.1.1, cell_put hl o _ h.1.2.1, cell_put hl o _ h.1.2.2.1, cell_put hl o _ h.1.2.2.2⟩, (frozen_put hl o _ h.1.1).trans h.2.1, (frozen_put hl o _ h.1.2.1).trans h.2.2.1, (frozen_put hl o _ h.1.2.2.1).trans h.2.2.2.1, (frozen_put hl o _ h.1.2.2.2).trans h.2.2.2.2⟩
theorem RV.new (W : World) (x y : Int) : RV (W.alloc (.cells #[.bool (sg x), .string (mg x), .bool (sg y), .string (mg y)] 25)) W.heap.size x y := by
  refine ⟨RIn.new rfl, ?_, ?_, ?_, ?_⟩ <;> simp [go_sem]

/-- Four cells of a block are stored. -/
def st4 (W : World) (p : Nat) (g1 : Bool) (s1 : ByteArray) (g2 : Bool) (s2 : ByteArray) : World := (((W.setCell ⟨p, 0, none⟩ (.bool g1)).setCell ⟨p, 1, none⟩ (.string s1)).setCell ⟨p, 2, none⟩ (.bool g2)).setCell ⟨p, 3, none⟩ (.string s2)
theorem st4_others (W : World) (p : Nat) (g1 g2 : Bool) (s1 s2 : ByteArray) : KeepsOthers W (st4 W p g1 s1 g2 s2) :=
  (((KeepsOthers.setCell W _ _).trans (KeepsOthers.setCell _ _ _)).trans (KeepsOthers.setCell _ _ _)).trans (KeepsOthers.setCell _ _ _)
theorem st4_frozen (W : World) (p : Nat) (g1 g2 : Bool) (s1 s2 : ByteArray) (q : Addr) : (st4 W p g1 s1 g2 s2).frozen? q = W.frozen? q := by
  unfold st4
  rw [World.frozen?_setCell, World.frozen?_setCell, World.frozen?_setCell, World.frozen?_setCell]
theorem st4_far {W : World} {p : Nat} {g1 g2 : Bool} {s1 s2 : ByteArray} {q : Addr} (h : q.block ≠ p) : (st4 W p g1 s1 g2 s2).cell? q = W.cell? q := by
  unfold st4
  rw [World.cell?_setCell_far _ _ _ _ (by exact fun e => h e.symm), World.cell?_setCell_far _ _ _ _ (by exact fun e => h e.symm), World.cell?_setCell_far _ _ _ _ (by exact fun e => h e.symm), World.cell?_setCell_far _ _ _ _ (by exact fun e => h e.symm)]
theorem st4_below {B : Nat} {W W1 : World} (h : Below B W W1) (p : Nat) (hp : B ≤ p) (g1 g2 : Bool) (s1 s2 : ByteArray) : Below B W (st4 W1 p g1 s1 g2 s2) := below4s h p hp _ _ _ _
theorem RV.st4 {W : World} {p : Nat} {x y : Int} (h : RV W p x y) (a b : Int) : RV (st4 W p (sg a) (mg a) (sg b) (mg b)) p a b :=
  ⟨RIn.made ⟨_, _, _, _, h.1.1, h.1.2.1, h.1.2.2.1, h.1.2.2.2⟩ _ _ _ _, (st4_frozen ..).trans h.2.1, (st4_frozen ..).trans h.2.2.1, (st4_frozen ..).trans h.2.2.2.1, (st4_frozen ..).trans h.2.2.2.2⟩
theorem RV.far {W : World} {p q : Nat} {x y : Int} (h : RV W p x y) (hne : p ≠ q) (g1 g2 : Bool) (s1 s2 : ByteArray) : RV (Go.Proofs.YtabmhckgdncjlaaGreatDoor.st4 W q g1 s1 g2 s2) p x y :=
  ⟨⟨(st4_far (by exact hne)).trans h.1.1, (st4_far (by exact hne)).trans h.1.2.1, (st4_far (by exact hne)).trans h.1.2.2.1, (st4_far (by exact hne)).trans h.1.2.2.2⟩, (st4_frozen ..).trans h.2.1, (st4_frozen ..).trans h.2.2.1, (st4_frozen ..).trans h.2.2.2.1, (st4_frozen ..).trans h.2.2.2.2⟩
/-- What a round does: the last two convergents go on. -/
def StepDoes (B l D p x : Nat) (REC : Loop) (W W' : World) (nn nd a b : Int) : Prop :=
  W'.heap[l]? = some (.loop REC) ∧ W'.heap[D]? = some (.deferred (some [])) ∧ RV W' p nn nd ∧ RV W' x a b ∧ Below B W W' ∧
  (∀ q v, W.cell? q = some v → q.block ≠ p → q.block ≠ x → W'.cell? q = some v ∧ W'.frozen? q = W.frozen? q)
/-- A variable of the type api.Rat whose integers have these values. -/
def QV (W : World) (p : Nat) (a b : Int) (k : Nat) : Prop := ∃ g1 s1 g2 s2, RIn W p g1 s1 g2 s2 ∧ (W.frozen? ⟨p, 0, none⟩ = false ∧ W.frozen? ⟨p, 1, none⟩ = false ∧ W.frozen? ⟨p, 2, none⟩ = false ∧ W.frozen? ⟨p, 3, none⟩ = false) ∧ IsInt (.agg #[.bool g1, .string s1]) a k ∧ IsInt (.agg #[.bool g2, .string s2]) b k
/-- A variable of the type api.Rat with these four cells, which may be stored. -/
def FR (W : World) (p : Nat) (g1 : Bool) (s1 : ByteArray) (g2 : Bool) (s2 : ByteArray) : Prop := RIn W p g1 s1 g2 s2 ∧ W.frozen? ⟨p, 0, none⟩ = false ∧ W.frozen? ⟨p, 1, none⟩ = false ∧ W.frozen? ⟨p, 2, none⟩ = false ∧ W.frozen? ⟨p, 3, none⟩ = false
theorem FR.keep {W W' : World} {p : Nat} {g1 g2 : Bool} {s1 s2 : ByteArray} (h : FR W p g1 s1 g2 s2) (hb : Below W.heap.size W W') : FR W' p g1 s1 g2 s2 :=
  ⟨h.1.keep hb, frozen_keep h.1.1 h.2.1 hb, frozen_keep h.1.2.1 h.2.2.1 hb, frozen_keep h.1.2.2.1 h.2.2.2.1 hb, frozen_keep h.1.2.2.2 h.2.2.2.2 hb⟩
/-- What lies in memory in a round. -/
def Sd (l D p5 x bl bh : Nat) (REC : Loop) (g1 : Bool) (s1 : ByteArray) (g2 : Bool) (s2 : ByteArray) (g3 : Bool) (s3 : ByteArray) (g4 : Bool) (s4 : ByteArray) (ln ld nn nd : Int) (W : World) : Prop :=
  W.heap[l]? = some (.loop REC) ∧ W.heap[D]? = some (.deferred (some [])) ∧ RV W p5 ln ld ∧ RV W x nn nd ∧ FR W bl g1 s1 g2 s2 ∧ FR W bh g3 s3 g4 s4
theorem heap_keep {W W' : World} {l : Nat} {o : Obj} (h : W.heap[l]? = some o) (hb : Below W.heap.size W W') : W'.heap[l]? = some o := (hb.block _ (Array.getElem?_eq_some_iff.1 h).1).trans h
theorem Sd.keep {l D p5 x bl bh : Nat} {REC : Loop} {g1 g2 g3 g4 : Bool} {s1 s2 s3 s4 : ByteArray} {ln ld nn nd : Int} {W W' : World} (h : Sd l D p5 x bl bh REC g1 s1 g2 s2 g3 s3 g4 s4 ln ld nn nd W) (hb : Below W.heap.size W W') : Sd l D p5 x bl bh REC g1 s1 g2 s2 g3 s3 g4 s4 ln ld nn nd W' :=
  ⟨heap_keep h.1 hb, heap_keep h.2.1 hb, h.2.2.1.keep hb, h.2.2.2.1.keep hb, h.2.2.2.2.1.keep hb, h.2.2.2.2.2.keep hb⟩
/-- An integer in two cells. -/
def IC (W : World) (p : Nat) (z : Int) : Prop := W.cell? ⟨p, 0, none⟩ = some (.bool (sg z)) ∧ W.cell? ⟨p, 1, none⟩ = some (.string (mg z))
theorem IC.keep {W W' : World} {p : Nat} {z : Int} (h : IC W p z) (hb : Below W.heap.size W W') : IC W' p z := ⟨cell_keep h.1 hb, cell_keep h.2 hb⟩
theorem FR.st4 {W : World} {p : Nat} {g1 g2 : Bool} {s1 s2 : ByteArray} (h : FR W p g1 s1 g2 s2) (h1 h2 : Bool) (u1 u2 : ByteArray) : FR (st4 W p h1 u1 h2 u2) p h1 u1 h2 u2 :=
  ⟨RIn.made ⟨_, _, _, _, h.1.1, h.1.2.1, h.1.2.2.1, h.1.2.2.2⟩ _ _ _ _, (st4_frozen ..).trans h.2.1, (st4_frozen ..).trans h.2.2.1, (st4_frozen ..).trans h.2.2.2.1, (st4_frozen ..).trans h.2.2.2.2⟩
theorem FR.far {W : World} {p q : Nat} {g1 g2 : Bool} {s1 s2 : ByteArray} (h : FR W p g1 s1 g2 s2) (hne : p ≠ q) (h1 h2 : Bool) (u1 u2 : ByteArray) : FR (Go.Proofs.YtabmhckgdncjlaaGreatDoor.st4 W q h1 u1 h2 u2) p g1 s1 g2 s2 :=
  ⟨⟨(st4_far (by exact hne)).trans h.1.1, (st4_far (by exact hne)).trans h.1.2.1, (st4_far (by exact hne)).trans h.1.2.2.1, (st4_far (by exact hne)).trans h.1.2.2.2⟩, (st4_frozen ..).trans h.2.1, (st4_frozen ..).trans h.2.2.1, (st4_frozen ..).trans h.2.2.2.1, (st4_frozen ..).trans h.2.2.2.2⟩
theorem FR.step {B l D p5 x bl : Nat} {REC : Loop} {W W' : World} {g1 g2 : Bool} {s1 s2 : ByteArray} {nn nd a b : Int} (h : FR W bl g1 s1 g2 s2) (hs : StepDoes B l D p5 x REC W W' nn nd a b) (n1 : bl ≠ p5) (n2 : bl ≠ x) : FR W' bl g1 s1 g2 s2 := by
  have k := hs.2.2.2.2.2
  have k1 := k _ _ h.1.1 n1 n2
  have k2 := k _ _ h.1.2.1 n1 n2
  have k3 := k _ _ h.1.2.2.1 n1 n2
  have k4 := k _ _ h.1.2.2.2 n1 n2
  exact ⟨⟨k1.1, k2.1, k3.1, k4.1⟩, k1.2.trans h.2.1, k2.2.trans h.2.2.1, k3.2.trans h.2.2.2.1, k4.2.trans h.2.2.2.2⟩
theorem IC.step {B l D p5 x p : Nat} {REC : Loop} {W W' : World} {z : Int} {nn nd a b : Int} (h : IC W p z) (hs : StepDoes B l D p5 x REC W W' nn nd a b) (n1 : p ≠ p5) (n2 : p ≠ x) : IC W' p z := by
  have k := hs.2.2.2.2.2
  exact ⟨(k _ _ h.1 n1 n2).1, (k _ _ h.2 n1 n2).1⟩
/-- What lies in memory between two rounds. -/
def Mid (B l D p5 x bl bh k : Nat) (M : Int) (REC : Loop) (W0 W : World) (a b c d ln ld nn nd : Int) : Prop :=
  W.heap[l]? = some (.loop REC) ∧ W.heap[D]? = some (.deferred (some [])) ∧ RV W p5 ln ld ∧ RV W x nn nd ∧ QV W bl a b k ∧ QV W bh c d k ∧ Inv M a b c d ln ld nn nd ∧ Below B W0 W
theorem nat_bd {z M : Int} {k : Nat} (h0 : 0 ≤ z) (h : z ≤ M) (hM : M.natAbs < 4294967296 ^ k) : z.natAbs < 4294967296 ^ k := by omega
theorem two_new (W : World) (t r : Int) {W2 : World} (hb : Below ((W.alloc (.cells #[.bool (sg t), .string (mg t)] 23)).alloc (.cells #[.bool (sg r), .string (mg r)] 23)).heap.size ((W.alloc (.cells #[.bool (sg t), .string (mg t)] 23)).alloc (.cells #[.bool (sg r), .string (mg r)] 23)) W2) :
    W2.cell? ⟨W.heap.size, 0, none⟩ = some (.bool (sg t)) ∧ W2.cell? ⟨W.heap.size, 1, none⟩ = some (.string (mg t)) ∧ W2.cell? ⟨W.heap.size + 1, 0, none⟩ = some (.bool (sg r)) ∧ W2.cell? ⟨W.heap.size + 1, 1, none⟩ = some (.string (mg r)) := by
  refine ⟨cell_keep (v := .bool (sg t)) ?_ hb, cell_keep (v := .string (mg t)) ?_ hb, cell_keep (v := .bool (sg r)) ?_ hb, cell_keep (v := .string (mg r)) ?_ hb⟩ <;> simp [go_sem]
/-- The integer whose sign and bytes two cells hold. -/
noncomputable def intAt (W : World) (p o : Nat) : Int := match W.cell? ⟨p, o, none⟩, W.cell? ⟨p, o + 1, none⟩ with
  | some (.bool g), some (.string s) => zv g s
  | _, _ => 0
theorem intAt_eq {W : World} {p o : Nat} {g : Bool} {s : ByteArray} {z : Int} {k : Nat} (h1 : W.cell? ⟨p, o, none⟩ = some (.bool g)) (h2 : W.cell? ⟨p, o + 1, none⟩ = some (.string s)) (h : IsInt (.agg #[.bool g, .string s]) z k) : intAt W p o = z := by
  obtain ⟨g', s', e, hz, _⟩ := h
  injection e with e
  simp only [Array.mk.injEq, List.cons.injEq, Value.bool.injEq, Value.string.injEq, and_true] at e
  obtain ⟨rfl, rfl⟩ := e
  unfold intAt
  rw [h1, h2]
  exact hz

set_option maxRecDepth 100000 in
set_option maxHeartbeats 6400000 in
theorem cterms_any (B l D p5 x bl bh k : Nat) (M : Int) (REC : Loop) (W0 : World) (P : Int → Int → Prop)
    (hY : ∀ W t ln ld nn nd, W.heap[l]? = some (.loop REC) → W.heap[D]? = some (.deferred (some [])) → RV W p5 ln ld → RV W x nn nd →
      IsInt (.agg #[.bool (sg t), .string (mg t)]) t k → IsInt (.agg #[.bool (sg ln), .string (mg ln)]) ln k → IsInt (.agg #[.bool (sg ld), .string (mg ld)]) ld k → IsInt (.agg #[.bool (sg nn), .string (mg nn)]) nn k → IsInt (.agg #[.bool (sg nd), .string (mg nd)]) nd k →
      YieldAt Fence.wide 6 Tryz.prog l #[.agg #[.bool (sg t), .string (mg t)]] W fun e W' => e = .returned (.bool true) ∧ StepDoes B l D p5 x REC W W' nn nd (t * nn + ln) (t * nd + ld))
    (e1 : p5 ≠ x) (e2 : bl ≠ bh) (e3 : bl ≠ p5) (e4 : bl ≠ x) (e5 : bh ≠ p5) (e6 : bh ≠ x) (f1 : B ≤ bl) (f2 : B ≤ bh) (f3 : B ≤ p5) (f4 : B ≤ x) (f5 : B ≤ W0.heap.size) (hM : M.natAbs < 4294967296 ^ k) (hk : k ≤ 1000000)
    (a b c d ln ld nn nd : Int) (W : World) (h0 : Mid B l D p5 x bl bh k M REC W0 W a b c d ln ld nn nd) (hP : ∀ rn rd, Sim a b c d ln ld nn nd rn rd → P rn rd) :
    CallsIn Fence.wide 7 Tryz.prog 105 #[.func (.yield l) #[] #[], .pointer (some ⟨bl, 0, none⟩), .pointer (some ⟨bh, 0, none⟩)] W fun e W' =>
      (∃ v, e = .returned v) ∧ W'.heap[l]? = some (.loop REC) ∧ W'.heap[D]? = some (.deferred (some [])) ∧ (∃ rn rd, P rn rd ∧ RV W' x rn rd) ∧ Below B W0 W' := by
  have HY := Lib.hid hY
  have HP := Lib.hid hP
  have HM := Lib.hid hM
  clear hY hP hM
  refine callsIn_of_wp Tryz.func105 rfl trivial ?_ rfl
  simp only [Tryz.ntmps105, List.size_toArray, List.length_cons, List.length_nil, Nat.reduceAdd, Nat.reduceSub, Array.replicate_succ, Array.replicate_zero, List.push_toArray, List.append_toArray, List.nil_append, List.cons_append]
  have hmx : Tryz.prog.follows .mixedOrders = true := by kernel_rfl
  gi_wp2
  gi_loopw [4] (fun _ wr => ∃ a b c d ln ld nn nd, Mid B l D p5 x bl bh k M REC W0 wr a b c d ln ld nn nd ∧ Hid (∀ rn rd, Sim a b c d ln ld nn nd rn rd → P rn rd)) (fun _ wr => (intAt wr bl 2 + intAt wr bh 2).toNat)
  case atStart => exact ⟨a, b, c, d, ln, ld, nn, nd, h0, HP⟩
  case round =>
    clear h0 HP
    obtain ⟨a, b, c, d, ln, ld, nn, nd, ⟨hl, hD, v5, v6, ⟨g1, s1, g2, s2, SL, FL, ia, ib⟩, ⟨g3, s3, g4, s4, SH, FH, ic, id'⟩, hinv, hB⟩, HP⟩ := hrel
    have Hmu := Lib.hid (show intAt wr bl 2 = b ∧ intAt wr bh 2 = d from ⟨intAt_eq SL.2.2.1 SL.2.2.2 ib, intAt_eq SH.2.2.1 SH.2.2.2 id'⟩)
    have Hinv := Lib.hid hinv
    have Hter := Lib.hid hinv.terms
    have Hle := Lib.hid hinv.le
    obtain ⟨t, Et⟩ : ∃ t, Hid (a / b = t) := ⟨_, Lib.hid rfl⟩
    obtain ⟨r, Er⟩ : ∃ t, Hid (a % b = t) := ⟨_, Lib.hid rfl⟩
    obtain ⟨u, Eu⟩ : ∃ t, Hid (c / d = t) := ⟨_, Lib.hid rfl⟩
    obtain ⟨v, Ev⟩ : ∃ t, Hid (c % d = t) := ⟨_, Lib.hid rfl⟩
    have Q1 := Lib.hid (show qD a b = t ∧ rD a b = r ∧ b ≠ 0 by have := hinv.1.2.1; exact ⟨(qD_pos this).1.trans Et.out, (qD_pos this).2.trans Er.out, by omega⟩)
    have Q2 := Lib.hid (show qD c d = u ∧ rD c d = v ∧ d ≠ 0 by have := hinv.1.2.2.2; exact ⟨(qD_pos this).1.trans Eu.out, (qD_pos this).2.trans Ev.out, by omega⟩)
    have Ia := Lib.hid ia
    have Ib := Lib.hid ib
    have Ic := Lib.hid ic
    have Idd := Lib.hid id'
    have Ht := Lib.hid (show 0 ≤ t ∧ t ≤ M ∧ 0 ≤ u ∧ u ≤ M ∧ 0 ≤ r ∧ r < b ∧ 0 ≤ v ∧ v < d ∧ t ≤ u by rw [← Et.out, ← Er.out, ← Eu.out, ← Ev.out]; exact hinv.terms)
    have Hb := Lib.hid (show b ≤ M ∧ d ≤ M from ⟨hinv.2.2.2.1.2.1, hinv.2.2.2.1.2.2.2⟩)
    have It := Lib.hid (isInt_mg (nat_bd Ht.out.1 Ht.out.2.1 HM.out) (show k ≤ 10000000 by omega))
    have Iu := Lib.hid (isInt_mg (nat_bd Ht.out.2.2.1 Ht.out.2.2.2.1 HM.out) (show k ≤ 10000000 by omega))
    have Ir := Lib.hid (isInt_mg (nat_bd Ht.out.2.2.2.2.1 (show r ≤ M by have h8 := Ht.out; have h9 := Hb.out; omega) HM.out) (show k ≤ 10000000 by omega))
    have Iv := Lib.hid (isInt_mg (nat_bd (z := v) (by have h8 := Ht.out; omega) (show v ≤ M by have h8 := Ht.out; have h9 := Hb.out; omega) HM.out) (show k ≤ 10000000 by omega))
    have Iln := Lib.hid (isInt_mg (nat_bd hinv.2.1.1 Hle.out.1 HM.out) (show k ≤ 10000000 by omega))
    have Ild := Lib.hid (isInt_mg (nat_bd hinv.2.1.2.1 Hle.out.2.1 HM.out) (show k ≤ 10000000 by omega))
    have Inn := Lib.hid (isInt_mg (nat_bd hinv.2.1.2.2.1 Hle.out.2.2.1 HM.out) (show k ≤ 10000000 by omega))
    have Ind := Lib.hid (isInt_mg (nat_bd hinv.2.1.2.2.2 Hle.out.2.2.2 HM.out) (show k ≤ 10000000 by omega))
    clear hinv ia ib ic id'
    have S0 : Sd l D p5 x bl bh REC g1 s1 g2 s2 g3 s3 g4 s4 ln ld nn nd wr := ⟨hl, hD, v5, v6, ⟨SL, FL⟩, ⟨SH, FH⟩⟩
    obtain ⟨q1, q2, q3, q4⟩ := id SL
    clear hl hD v5 v6 SL FL FH
    obtain ⟨Z, EZ⟩ : ∃ Z : Bool, Hid (decide (r = 0) = Z) := ⟨_, Lib.hid rfl⟩
    cases Z with
    | true =>
      gi_wp2_with (refine ⟨trivial, ?_⟩; first
        | (gi_at_call 39; (with_reducible refine (callsIn_wide.2 (ediv_eq Ia.out Ib.out Q1.out.2.2 Q1.out.1 Q1.out.2.1)).mono ?_); rintro e W1 ⟨rfl, b1⟩; have S1 := S0.keep b1; have SH1 := SH.keep b1; obtain ⟨h1, h2, h3, h4⟩ := id SH1; have m1 := SH1.lt; have B1 := below_more hB f5 b1; clear SH)
        | (gi_at_call 39; (with_reducible refine (callsIn_wide.2 (ediv_eq Ic.out Idd.out Q2.out.2.2 Q2.out.1 Q2.out.2.1)).mono ?_); rintro e W2 ⟨rfl, b2⟩; have c1 := two_new W1 t r b2; obtain ⟨c2, c3, c4, c5⟩ := id c1; have S2 := (S1.keep (below2 W1 _ _)).keep b2; have B2 := below_more (below_more B1 f5 (below2 W1 _ _)) f5 b2; have m2 := World.block_lt_of_cell? W2 _ c4; dsimp only at m2; have m3 : W1.heap.size < W2.heap.size := by omega)
        | (gi_at_call 55; (with_reducible refine (callsIn_wide.2 (isZero_any _ r k _ Ir.out)).mono ?_); rw [EZ.out]; rintro e W3 ⟨rfl, b3⟩
           have S3 := (S2.keep (below2 W2 (.cells #[.bool (sg u), .string (mg u)] 23) (.cells #[.bool (sg v), .string (mg v)] 23))).keep b3
           have B3 := below_more (below_more B2 f5 (below2 W2 (.cells #[.bool (sg u), .string (mg u)] 23) (.cells #[.bool (sg v), .string (mg v)] 23))) f5 b3
           have d2 := cell_keep (cell_keep c2 (below2 W2 (.cells #[.bool (sg u), .string (mg u)] 23) (.cells #[.bool (sg v), .string (mg v)] 23))) b3
           have d3 := cell_keep (cell_keep c3 (below2 W2 (.cells #[.bool (sg u), .string (mg u)] 23) (.cells #[.bool (sg v), .string (mg v)] 23))) b3
           obtain ⟨fn, tmps, assign, body, hrun, hR⟩ := HY.out W3 t ln ld nn nd S3.1 S3.2.1 S3.2.2.1 S3.2.2.2.1 It.out Iln.out Ild.out Inn.out Ind.out))
      refine hR.mono ?_
      rintro e W4 ⟨rfl, hst⟩
      have hsim : P (t * nn + ln) (t * nd + ld) := by
        have h1 := Sim.whole (c := c) (d := d) (ln := ln) (ld := ld) (nn := nn) (nd := nd) (show a % b = 0 by rw [Er.out]; exact of_decide_eq_true EZ.out)
        rw [Et.out] at h1
        exact HP.out _ _ h1
      have hfin := Lib.hid (show W4.heap[l]? = some (.loop REC) ∧ W4.heap[D]? = some (.deferred (some [])) ∧ (∃ rn rd, P rn rd ∧ RV W4 x rn rd) ∧ Below B W0 W4 from ⟨hst.1, hst.2.1, ⟨_, _, hsim, hst.2.2.2.1⟩, B3.trans hst.2.2.2.2.1⟩)
      clear hst S0 S1 S2 S3 b1 b2 b3 hR hrun
      gi_wp2
      exact bodyPost_ret (results_none rfl _ _ _) rfl ⟨⟨_, rfl⟩, hfin.out⟩
    | false =>
      obtain ⟨Z2, EZ2⟩ : ∃ Z2 : Bool, Hid (decide (t = u) = Z2) := ⟨_, Lib.hid rfl⟩
      cases Z2 with
      | true =>
        have En := Lib.hid (show cmpZ t u = 0 by have h := of_decide_eq_true EZ2.out; unfold cmpZ; rw [if_neg (by omega), if_neg (by omega)])
        gi_wp2_with (refine ⟨trivial, ?_⟩; first
          | (gi_at_call 39; (with_reducible refine (callsIn_wide.2 (ediv_eq Ia.out Ib.out Q1.out.2.2 Q1.out.1 Q1.out.2.1)).mono ?_); rintro e W1 ⟨rfl, b1⟩; have S1 := S0.keep b1; have SH1 := SH.keep b1; obtain ⟨h1, h2, h3, h4⟩ := id SH1; have m1 := SH1.lt; have B1 := below_more hB f5 b1; clear SH)
          | (gi_at_call 39; (with_reducible refine (callsIn_wide.2 (ediv_eq Ic.out Idd.out Q2.out.2.2 Q2.out.1 Q2.out.2.1)).mono ?_); rintro e W2 ⟨rfl, b2⟩; have c1 := two_new W1 t r b2; obtain ⟨c2, c3, c4, c5⟩ := id c1; have S2 := (S1.keep (below2 W1 _ _)).keep b2; have B2 := below_more (below_more B1 f5 (below2 W1 _ _)) f5 b2; have m2 := World.block_lt_of_cell? W2 _ c4; dsimp only at m2; have m3 : W1.heap.size < W2.heap.size := by omega)
          | (gi_at_call 55; (with_reducible refine (callsIn_wide.2 (isZero_any _ r k _ Ir.out)).mono ?_); rw [EZ.out]; rintro e W3 ⟨rfl, b3⟩
             have S3 := (S2.keep (below2 W2 (.cells #[.bool (sg u), .string (mg u)] 23) (.cells #[.bool (sg v), .string (mg v)] 23))).keep b3
             have B3 := below_more (below_more B2 f5 (below2 W2 (.cells #[.bool (sg u), .string (mg u)] 23) (.cells #[.bool (sg v), .string (mg v)] 23))) f5 b3
             have c6 := two_new W2 u v b3
             have T3 : IC W3 W1.heap.size t := (show IC W2 W1.heap.size t from ⟨c2, c3⟩).keep (below2 W2 (.cells #[.bool (sg u), .string (mg u)] 23) (.cells #[.bool (sg v), .string (mg v)] 23)) |>.keep b3
             have R3 : IC W3 (W1.heap.size + 1) r := (show IC W2 (W1.heap.size + 1) r from ⟨c4, c5⟩).keep (below2 W2 (.cells #[.bool (sg u), .string (mg u)] 23) (.cells #[.bool (sg v), .string (mg v)] 23)) |>.keep b3
             have V3 : IC W3 (W2.heap.size + 1) v := ⟨c6.2.2.1, c6.2.2.2⟩
             obtain ⟨d1, d2⟩ := id T3
             obtain ⟨d3, d4, _⟩ := id c6)
          | (gi_at_call 23; (with_reducible refine (callsIn_wide.2 (icmp_eq It.out Iu.out En.out)).mono ?_); rintro e W4 ⟨rfl, b4⟩
             have S4 := S3.keep b4
             have B4 := below_more B3 f5 b4
             have T4 := T3.keep b4
             have R4 := R3.keep b4
             have V4 := V3.keep b4
             have hm := Lib.hid (show W1.heap.size ≠ p5 ∧ W1.heap.size ≠ x ∧ W1.heap.size + 1 ≠ p5 ∧ W1.heap.size + 1 ≠ x ∧ W2.heap.size + 1 ≠ p5 ∧ W2.heap.size + 1 ≠ x ∧ bl ≠ W1.heap.size + 1 ∧ bl ≠ W2.heap.size + 1 ∧ bh ≠ W2.heap.size + 1 ∧ bh ≠ W1.heap.size + 1 from by
               have k1 := S1.2.2.1.1.lt
               have k2 := S1.2.2.2.1.1.lt
               have k3 := S1.2.2.2.2.1.1.lt
               refine ⟨?_, ?_, ?_, ?_, ?_, ?_, ?_, ?_, ?_, ?_⟩ <;> omega)
             clear S0 S1 S2 S3 b1 b2 b3 b4 T3 R3 V3 c1 c2 c3 c4 c5 c6 B1 B2 B3 hB d1 d2 d3 d4 q1 q2 q3 q4 h1 h2 h3 h4
             obtain ⟨p1, p2⟩ := id T4
             obtain ⟨fn, tmps, assign, body, hrun, hR⟩ := HY.out W4 t ln ld nn nd S4.1 S4.2.1 S4.2.2.1 S4.2.2.2.1 It.out Iln.out Ild.out Inn.out Ind.out))
        refine hR.mono ?_
        rintro e W5 ⟨rfl, hst⟩
        have T5 := T4.step hst hm.out.1 hm.out.2.1
        have R5 := R4.step hst hm.out.2.2.1 hm.out.2.2.2.1
        have V5 := V4.step hst hm.out.2.2.2.2.1 hm.out.2.2.2.2.2.1
        have L5 := S4.2.2.2.2.1.step hst e3 e4
        have H5 := S4.2.2.2.2.2.step hst e5 e6
        have B5 := B4.trans hst.2.2.2.2.1
        obtain ⟨x1, x2, x3, x4, _, _⟩ := hst
        clear S4 B4 T4 R4 V4 hR hrun p1 p2
        gi_wp2
        have SS : RIn W5.drew bl g1 s1 g2 s2 ∧ RIn W5.drew bh g3 s3 g4 s4 ∧ W5.drew.cell? ⟨W2.heap.size + 1, 0, none⟩ = some (.bool (sg v)) ∧ W5.drew.cell? ⟨W2.heap.size + 1, 1, none⟩ = some (.string (mg v)) ∧ W5.drew.cell? ⟨W1.heap.size + 1, 0, none⟩ = some (.bool (sg r)) ∧ W5.drew.cell? ⟨W1.heap.size + 1, 1, none⟩ = some (.string (mg r)) := ⟨L5.1, H5.1, V5.1, V5.2, R5.1, R5.2⟩
        have FFl : W5.drew.frozen? ⟨bl, 0, none⟩ = false ∧ W5.drew.frozen? ⟨bl, 1, none⟩ = false ∧ W5.drew.frozen? ⟨bl, 2, none⟩ = false ∧ W5.drew.frozen? ⟨bl, 3, none⟩ = false := L5.2
        have FFh : W5.drew.frozen? ⟨bh, 0, none⟩ = false ∧ W5.drew.frozen? ⟨bh, 1, none⟩ = false ∧ W5.drew.frozen? ⟨bh, 2, none⟩ = false ∧ W5.drew.frozen? ⟨bh, 3, none⟩ = false := H5.2
        have Hne := Lib.hid e2
        have e2' : bh ≠ bl := Ne.symm e2
        obtain ⟨⟨t9, t10, t11, t12⟩, ⟨t1, t2, t3, t4⟩, t5, t6, t7, t8⟩ := id SS
        obtain ⟨f6, f7, f8, f9⟩ := id FFl
        obtain ⟨f10, f11, f12, f13⟩ := id FFh
        refine wpIn_wide.2 (regionT (T := T2 8 9 (fun W => RIn W bl g1 s1 g2 s2) (fun W => RIn W bh g3 s3 g4 s4 ∧ W.cell? ⟨W2.heap.size + 1, 0, none⟩ = some (.bool (sg v)) ∧ W.cell? ⟨W2.heap.size + 1, 1, none⟩ = some (.string (mg v)) ∧ W.cell? ⟨W1.heap.size + 1, 0, none⟩ = some (.bool (sg r)) ∧ W.cell? ⟨W1.heap.size + 1, 1, none⟩ = some (.string (mg r)))) hmx ?_)
        have N1 : W5.drew.heap[l]? = some (.loop REC) := x1
        have N2 : W5.drew.heap[D]? = some (.deferred (some [])) := x2
        have N3 : RV W5.drew p5 nn nd := x3
        have N4 : RV W5.drew x (t * nn + ln) (t * nd + ld) := x4
        have N5 : FR W5.drew bl g1 s1 g2 s2 := L5
        have N6 : FR W5.drew bh g3 s3 g4 s4 := H5
        have N7 : Below B W0 W5.drew := B5.drew
        clear x1 x2 x3 x4 L5 H5 B5 T5 R5 V5
        generalize W5.drew = X at *
        refine take2 (i := 0) (oi := { dst := some 46, op := Op.fieldAddr 25 (Operand.tmp 2) 1, type := 0, pos := "simplest.go:57", after := #[], guard := none }) (v := ?_) rfl (by kernel_rfl) (by kernel_rfl) (by kernel_rfl) (by kernel_rfl) (by kernel_rfl) (by decide) (by decide) (fun _ _ _ h => h) (Or.inl ⟨by rfl, ?_⟩) (SS.1) (SS.2) ?_
        rotate_left
        · intro w hSw
          (try dsimp only at hSw)
          (try unfold RIn at hSw)
          go_simp
          all_goals with_reducible rfl
        (try simp only [Act.put, List.setIfInBounds_toArray, List.set_cons_zero, List.set_cons_succ])
        refine take2 (i := 1) (oi := { dst := some 47, op := Op.load 23 (Operand.tmp 46), type := 23, pos := "simplest.go:57", after := #[{ on := 0, ground := Ground.data }], guard := none }) (v := ?_) rfl (by kernel_rfl) (by kernel_rfl) (by kernel_rfl) (by kernel_rfl) (by kernel_rfl) (by decide) (by decide) (fun _ _ _ h => h) (Or.inl ⟨by rfl, ?_⟩) (SS.1) (SS.2) ?_
        rotate_left
        · intro w hSw
          (try dsimp only at hSw)
          (try unfold RIn at hSw)
          go_simp
          all_goals with_reducible rfl
        (try simp only [Act.put, List.setIfInBounds_toArray, List.set_cons_zero, List.set_cons_succ])
        refine take2 (i := 2) (oi := { dst := some 48, op := Op.load 23 (Operand.tmp 8), type := 23, pos := "simplest.go:57", after := #[], guard := none }) (v := ?_) rfl (by kernel_rfl) (by kernel_rfl) (by kernel_rfl) (by kernel_rfl) (by kernel_rfl) (by decide) (by decide) (fun _ _ _ h => h) (Or.inl ⟨by rfl, ?_⟩) (SS.1) (SS.2) ?_
        rotate_left
        · intro w hSw
          (try dsimp only at hSw)
          (try unfold RIn at hSw)
          go_simp
          all_goals with_reducible rfl
        (try simp only [Act.put, List.setIfInBounds_toArray, List.set_cons_zero, List.set_cons_succ])
        refine take2 (i := 3) (oi := { dst := some 49, op := Op.build 25 #[(0, Operand.tmp 47), (1, Operand.tmp 48)], type := 25, pos := "simplest.go:57", after := #[{ on := 1, ground := Ground.data }, { on := 2, ground := Ground.data }], guard := none }) (v := ?_) rfl (by kernel_rfl) (by kernel_rfl) (by kernel_rfl) (by kernel_rfl) (by kernel_rfl) (by decide) (by decide) (fun _ _ _ h => h) (Or.inl ⟨by rfl, ?_⟩) (SS.1) (SS.2) ?_
        rotate_left
        · intro w hSw
          (try dsimp only at hSw)
          (try unfold RIn at hSw)
          go_simp
          all_goals with_reducible rfl
        (try simp only [Act.put, List.setIfInBounds_toArray, List.set_cons_zero, List.set_cons_succ])
        refine take1 (i := 4) (oi := { dst := some 50, op := Op.fieldAddr 25 (Operand.tmp 1) 1, type := 0, pos := "simplest.go:57", after := #[], guard := none }) (v := ?_) rfl (by kernel_rfl) (by kernel_rfl) (by kernel_rfl) (by kernel_rfl) (by kernel_rfl) (by decide) (by decide) (fun _ _ _ h => h) (Or.inl ⟨by rfl, ?_⟩) (SS.1) (SS.2) ?_
        rotate_left
        · intro w hSw
          (try dsimp only at hSw)
          (try unfold RIn at hSw)
          go_simp
          all_goals with_reducible rfl
        (try simp only [Act.put, List.setIfInBounds_toArray, List.set_cons_zero, List.set_cons_succ])
        refine take1 (i := 5) (oi := { dst := some 51, op := Op.load 23 (Operand.tmp 50), type := 23, pos := "simplest.go:57", after := #[{ on := 4, ground := Ground.data }], guard := none }) (v := ?_) rfl (by kernel_rfl) (by kernel_rfl) (by kernel_rfl) (by kernel_rfl) (by kernel_rfl) (by decide) (by decide) (fun _ _ _ h => h) (Or.inl ⟨by rfl, ?_⟩) (SS.1) (SS.2) ?_
        rotate_left
        · intro w hSw
          (try dsimp only at hSw)
          (try unfold RIn at hSw)
          go_simp
          all_goals with_reducible rfl
        (try simp only [Act.put, List.setIfInBounds_toArray, List.set_cons_zero, List.set_cons_succ])
        refine take2 (i := 6) (oi := { dst := some 52, op := Op.load 23 (Operand.tmp 5), type := 23, pos := "simplest.go:57", after := #[], guard := none }) (v := ?_) rfl (by kernel_rfl) (by kernel_rfl) (by kernel_rfl) (by kernel_rfl) (by kernel_rfl) (by decide) (by decide) (fun _ _ _ h => h) (Or.inl ⟨by rfl, ?_⟩) (SS.1) (SS.2) ?_
        rotate_left
        · intro w hSw
          (try dsimp only at hSw)
          (try unfold RIn at hSw)
          go_simp
          all_goals with_reducible rfl
        (try simp only [Act.put, List.setIfInBounds_toArray, List.set_cons_zero, List.set_cons_succ])
        refine take2 (i := 7) (oi := { dst := some 53, op := Op.build 25 #[(0, Operand.tmp 51), (1, Operand.tmp 52)], type := 25, pos := "simplest.go:57", after := #[{ on := 5, ground := Ground.data }, { on := 6, ground := Ground.data }], guard := none }) (v := ?_) rfl (by kernel_rfl) (by kernel_rfl) (by kernel_rfl) (by kernel_rfl) (by kernel_rfl) (by decide) (by decide) (fun _ _ _ h => h) (Or.inl ⟨by rfl, ?_⟩) (SS.1) (SS.2) ?_
        rotate_left
        · intro w hSw
          (try dsimp only at hSw)
          (try unfold RIn at hSw)
          go_simp
          all_goals with_reducible rfl
        (try simp only [Act.put, List.setIfInBounds_toArray, List.set_cons_zero, List.set_cons_succ])
        refine stepT (i := 8) (o := { dst := none, op := Op.store 25 (Operand.tmp 1) (Operand.tmp 49), type := 0, pos := "simplest.go:57", after := #[{ on := 3, ground := Ground.data }, { on := 0, ground := Ground.phase }, { on := 1, ground := Ground.phase }, { on := 2, ground := Ground.phase }, { on := 3, ground := Ground.phase }, { on := 4, ground := Ground.phase }, { on := 5, ground := Ground.phase }, { on := 6, ground := Ground.textOnly Departure.lateStores }, { on := 7, ground := Ground.textOnly Departure.lateStoresUnsure }], guard := none }) (by kernel_rfl) rfl (fun K hK => ?_)
        go_simp
        refine hK.out _ _ ⟨fun h => absurd h (by decide), fun _ => ⟨⟨(st4_far (g1 := g4) (s1 := s4) (g2 := sg v) (s2 := mg v) (by exact e2')).trans t1, (st4_far (g1 := g4) (s1 := s4) (g2 := sg v) (s2 := mg v) (by exact e2')).trans t2, (st4_far (g1 := g4) (s1 := s4) (g2 := sg v) (s2 := mg v) (by exact e2')).trans t3, (st4_far (g1 := g4) (s1 := s4) (g2 := sg v) (s2 := mg v) (by exact e2')).trans t4⟩, (st4_far (g1 := g4) (s1 := s4) (g2 := sg v) (s2 := mg v) (by exact Ne.symm hm.out.2.2.2.2.2.2.2.1)).trans t5, (st4_far (g1 := g4) (s1 := s4) (g2 := sg v) (s2 := mg v) (by exact Ne.symm hm.out.2.2.2.2.2.2.2.1)).trans t6, (st4_far (g1 := g4) (s1 := s4) (g2 := sg v) (s2 := mg v) (by exact Ne.symm hm.out.2.2.2.2.2.2.1)).trans t7, (st4_far (g1 := g4) (s1 := s4) (g2 := sg v) (s2 := mg v) (by exact Ne.symm hm.out.2.2.2.2.2.2.1)).trans t8⟩⟩ ?_
        clear hK K
        (try simp only [Act.put, List.setIfInBounds_toArray, List.set_cons_zero, List.set_cons_succ])
        refine stepT (i := 9) (o := { dst := none, op := Op.store 25 (Operand.tmp 2) (Operand.tmp 53), type := 0, pos := "simplest.go:57", after := #[{ on := 7, ground := Ground.data }, { on := 8, ground := Ground.chain }, { on := 0, ground := Ground.phase }, { on := 1, ground := Ground.phase }, { on := 2, ground := Ground.phase }, { on := 3, ground := Ground.phase }, { on := 4, ground := Ground.phase }, { on := 5, ground := Ground.phase }, { on := 6, ground := Ground.phase }, { on := 7, ground := Ground.phase }, { on := 8, ground := Ground.phase }], guard := none }) (by kernel_rfl) rfl (fun K hK => ?_)
        go_simp
        refine hK.out _ _ ⟨fun h => absurd h (by decide), fun h => absurd h (by decide)⟩ ?_
        clear hK K
        (try simp only [Act.put, List.setIfInBounds_toArray, List.set_cons_zero, List.set_cons_succ])
        refine doneT (by kernel_rfl) ?_ _
        have hsx := (st4_others X bl g4 (sg v) s4 (mg v)).trans (st4_others _ bh g2 (sg r) s2 (mg r))
        have M3 := (show FR X p5 (sg nn) (mg nn) (sg nd) (mg nd) from N3).far (Ne.symm e3) g4 (sg v) s4 (mg v) |>.far (Ne.symm e5) g2 (sg r) s2 (mg r)
        have M4 := (show FR X x (sg (t * nn + ln)) (mg (t * nn + ln)) (sg (t * nd + ld)) (mg (t * nd + ld)) from N4).far (Ne.symm e4) g4 (sg v) s4 (mg v) |>.far (Ne.symm e6) g2 (sg r) s2 (mg r)
        have M5 := (N5.st4 g4 (sg v) s4 (mg v)).far e2 g2 (sg r) s2 (mg r)
        have M6 := (N6.far e2' g4 (sg v) s4 (mg v)).st4 g2 (sg r) s2 (mg r)
        have M7 := st4_below (st4_below N7 bl f1 g4 (sg v) s4 (mg v)) bh f2 g2 (sg r) s2 (mg r)
        have hr0 : r ≠ 0 := of_decide_eq_false EZ.out
        have htu : t = u := of_decide_eq_true EZ2.out
        have hI := Hinv.out.step (by rw [Er.out]; exact hr0) (by rw [Et.out, Eu.out]; exact htu)
        rw [Et.out, Er.out, Ev.out] at hI
        have hP' : ∀ rn rd, Sim d v b r nn nd (t * nn + ln) (t * nd + ld) rn rd → P rn rd := fun rn rd hs => HP.out rn rd (Sim.more (by rw [Er.out]; exact hr0) (by rw [Et.out, Eu.out]; exact htu) (by rw [Et.out, Er.out, Ev.out]; exact hs))
        gi_wp2
        refine ⟨⟨d, v, b, r, nn, nd, t * nn + ln, t * nd + ld, ⟨hsx.same l _ N1 rfl, hsx.same D _ N2 rfl, M3, M4, ⟨g4, s4, sg v, mg v, M5.1, M5.2, Idd.out, Iv.out⟩, ⟨g2, s2, sg r, mg r, M6.1, M6.2, Ib.out, Ir.out⟩, hI, M7⟩, Lib.hid hP'⟩, ?_⟩
        have q7 := intAt_eq M5.1.2.2.1 M5.1.2.2.2 Iv.out
        have q8 := intAt_eq M6.1.2.2.1 M6.1.2.2.2 Ir.out
        have q9 := Hmu.out
        have h8 := Ht.out
        show (intAt (st4 (st4 X bl g4 s4 (sg v) (mg v)) bh g2 s2 (sg r) (mg r)) bl 2 + intAt (st4 (st4 X bl g4 s4 (sg v) (mg v)) bh g2 s2 (sg r) (mg r)) bh 2).toNat < _
        rw [q7, q8, q9.1, q9.2]
        omega
      | false =>
        have En := Lib.hid (show cmpZ t u = -1 by have h := of_decide_eq_false EZ2.out; have h8 := Ht.out; unfold cmpZ; rw [if_pos (by omega)])
        gi_wp2_with (refine ⟨trivial, ?_⟩; first
          | (gi_at_call 39; (with_reducible refine (callsIn_wide.2 (ediv_eq Ia.out Ib.out Q1.out.2.2 Q1.out.1 Q1.out.2.1)).mono ?_); rintro e W1 ⟨rfl, b1⟩; have S1 := S0.keep b1; have SH1 := SH.keep b1; obtain ⟨h1, h2, h3, h4⟩ := id SH1; have m1 := SH1.lt; have B1 := below_more hB f5 b1; clear SH)
          | (gi_at_call 39; (with_reducible refine (callsIn_wide.2 (ediv_eq Ic.out Idd.out Q2.out.2.2 Q2.out.1 Q2.out.2.1)).mono ?_); rintro e W2 ⟨rfl, b2⟩; have c1 := two_new W1 t r b2; obtain ⟨c2, c3, c4, c5⟩ := id c1; have S2 := (S1.keep (below2 W1 _ _)).keep b2; have B2 := below_more (below_more B1 f5 (below2 W1 _ _)) f5 b2; have m2 := World.block_lt_of_cell? W2 _ c4; dsimp only at m2; have m3 : W1.heap.size < W2.heap.size := by omega)
          | (gi_at_call 55; (with_reducible refine (callsIn_wide.2 (isZero_any _ r k _ Ir.out)).mono ?_); rw [EZ.out]; rintro e W3 ⟨rfl, b3⟩
             have S3 := (S2.keep (below2 W2 (.cells #[.bool (sg u), .string (mg u)] 23) (.cells #[.bool (sg v), .string (mg v)] 23))).keep b3
             have B3 := below_more (below_more B2 f5 (below2 W2 (.cells #[.bool (sg u), .string (mg u)] 23) (.cells #[.bool (sg v), .string (mg v)] 23))) f5 b3
             have c6 := two_new W2 u v b3
             have T3 : IC W3 W1.heap.size t := (show IC W2 W1.heap.size t from ⟨c2, c3⟩).keep (below2 W2 (.cells #[.bool (sg u), .string (mg u)] 23) (.cells #[.bool (sg v), .string (mg v)] 23)) |>.keep b3
             have R3 : IC W3 (W1.heap.size + 1) r := (show IC W2 (W1.heap.size + 1) r from ⟨c4, c5⟩).keep (below2 W2 (.cells #[.bool (sg u), .string (mg u)] 23) (.cells #[.bool (sg v), .string (mg v)] 23)) |>.keep b3
             have V3 : IC W3 (W2.heap.size + 1) v := ⟨c6.2.2.1, c6.2.2.2⟩
             obtain ⟨d1, d2⟩ := id T3
             obtain ⟨d3, d4, _⟩ := id c6)
          | (gi_at_call 23; (with_reducible refine (callsIn_wide.2 (icmp_eq It.out Iu.out En.out)).mono ?_); rintro e W4 ⟨rfl, b4⟩
             have S4 := S3.keep b4
             have B4 := below_more B3 f5 b4
             have T4 := T3.keep b4
             have R4 := R3.keep b4
             have V4 := V3.keep b4
             have hm := Lib.hid (show W1.heap.size ≠ p5 ∧ W1.heap.size ≠ x ∧ W1.heap.size + 1 ≠ p5 ∧ W1.heap.size + 1 ≠ x ∧ W2.heap.size + 1 ≠ p5 ∧ W2.heap.size + 1 ≠ x ∧ bl ≠ W1.heap.size + 1 ∧ bl ≠ W2.heap.size + 1 ∧ bh ≠ W2.heap.size + 1 ∧ bh ≠ W1.heap.size + 1 from by
               have k1 := S1.2.2.1.1.lt
               have k2 := S1.2.2.2.1.1.lt
               have k3 := S1.2.2.2.2.1.1.lt
               refine ⟨?_, ?_, ?_, ?_, ?_, ?_, ?_, ?_, ?_, ?_⟩ <;> omega)
             clear S0 S1 S2 S3 b1 b2 b3 b4 T3 R3 V3 c1 c2 c3 c4 c5 c6 B1 B2 B3 hB d1 d2 d3 d4 q1 q2 q3 q4 h1 h2 h3 h4
             obtain ⟨p1, p2⟩ := id T4))
        gi_region_with_o (first
          | (refine ⟨trivial, ?_⟩; gi_at_call 24; (with_reducible refine (callsIn_wide.2 (iof_any 1 _ (by omega) (by omega))).mono ?_); rintro e W5 ⟨rfl, b5⟩; have T5 := (show IC W4.drew W1.heap.size t from T4).keep b5; obtain ⟨r1, r2⟩ := id T5)
          | (refine ⟨trivial, ?_⟩; gi_at_call 77; (with_reducible refine (callsIn_wide.2 (iadd_any _ _ t 1 k 1 _ It.out (isInt_mg (by decide) (by omega)))).mono ?_); rintro e W6 ⟨rfl, b6⟩
             have S6 := ((show Sd l D p5 x bl bh REC g1 s1 g2 s2 g3 s3 g4 s4 ln ld nn nd W4.drew from S4).keep b5).keep b6
             have B6 := below_more (below_more B4.drew f5 b5) f5 b6
             have It1 := isInt_mg (z := t + 1) (nat_bd (by have h8 := Ht.out; omega) (show t + 1 ≤ M by have h8 := Ht.out; have h9 := of_decide_eq_false EZ2.out; omega) HM.out) (show k ≤ 10000000 by omega)
             obtain ⟨fn, tmps, assign, body, hrun, hR⟩ := HY.out W6 (t + 1) ln ld nn nd S6.1 S6.2.1 S6.2.2.1 S6.2.2.2.1 It1 Iln.out Ild.out Inn.out Ind.out)
          | (refine hR.mono ?_; rintro e W7 ⟨rfl, hst⟩))
        all_goals
          have hsim : P ((t + 1) * nn + ln) ((t + 1) * nd + ld) := by
            have h1 := Sim.above (c := c) (d := d) (ln := ln) (ld := ld) (nn := nn) (nd := nd) (show a % b ≠ 0 by rw [Er.out]; exact of_decide_eq_false EZ.out) (show a / b ≠ c / d by rw [Et.out, Eu.out]; exact of_decide_eq_false EZ2.out)
            rw [Et.out] at h1
            exact HP.out _ _ h1
          have hfin := Lib.hid (show W7.heap[l]? = some (.loop REC) ∧ W7.heap[D]? = some (.deferred (some [])) ∧ (∃ rn rd, P rn rd ∧ RV W7 x rn rd) ∧ Below B W0 W7 from ⟨hst.1, hst.2.1, ⟨_, _, hsim, hst.2.2.2.1⟩, B6.trans hst.2.2.2.2.1⟩)
          clear hst S4 S6 b5 b6 hR hrun T5 T4 R4 V4 B4 B6 It1
          gi_wp2
          exact bodyPost_ret (results_none rfl _ _ _) rfl ⟨⟨_, rfl⟩, hfin.out⟩
end Go.Proofs.YtabmhckgdncjlaaGreatDoor
