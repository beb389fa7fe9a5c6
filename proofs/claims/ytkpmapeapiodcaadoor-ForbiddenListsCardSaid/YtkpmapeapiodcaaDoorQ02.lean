/- Words over small alphabets, their ranks and the words behind them: plain facts on lists. No condition. Plain facts on graphs: the order of edges, the errors of Check, members of a set. No condition. Edges in memory, and what compareEdges and the reference's Compare return. No condition. -/
import Derived.Test.YtkpmapeapiodcaaDoorQ01
import Derived.Lib.Hide
import Derived.Test.YtkpmapeapiodcaaDoorChecked
import Derived.Below
import Derived.WalkKit
import Derived.OwnWalk
import Derived.Deep.LoopGhost
import Derived.Deep.Cut
import Derived.Deep.OwnRows
import Derived.Deep.RegionHeld3
import Derived.Deep.RegionLaw
import Derived.Deep.AppendLies
import Derived.Deep.QuietTactic
import Derived.BigQuiet
import Derived.Lib.MinMax
import Derived.Maps.AppendAt

namespace Go.Proofs.YtkpmapeapiodcaaDoor
def lets : List UInt8 := [48, 49, 50, 51, 52, 53, 54, 55, 56, 57, 97, 98, 99, 100, 101, 102]
def lt (d : Nat) : UInt8 := lets.getD d 0
def dgt (c : UInt8) : Nat := lets.idxOf c
theorem dgt_lt : ∀ d, d < 16 → dgt (lt d) = d := by decide
theorem lt_at {i : Nat} (h : i < lets.length) : lt i = lets[i] := by
  unfold lt
  rw [List.getD_eq_getElem?_getD, List.getElem?_eq_getElem h]; rfl
theorem lt_dgt {c : UInt8} (h : dgt c < 16) : lt (dgt c) = c := by
  have h1 : dgt c < lets.length := h
  rw [lt_at h1]
  exact List.getElem_idxOf h1
def Wof (q : Nat) (w : List UInt8) : Prop := ∀ c ∈ w, dgt c < q
instance (q : Nat) (w : List UInt8) : Decidable (Wof q w) := inferInstanceAs (Decidable (∀ c ∈ w, dgt c < q))
theorem mem_lets {q : Nat} (hq : q ≤ 16) (c : UInt8) : c ∈ lets.take q ↔ dgt c < q := by
  constructor
  · intro h
    obtain ⟨i, hi, rfl⟩ := List.mem_iff_getElem.1 h
    rw [List.length_take] at hi
    have h1 : (lets.take q)[i]'(by rw [List.length_take]; exact hi) = lt i := by
      rw [List.getElem_take, lt_at]
    rw [h1, dgt_lt i (by omega)]
    omega
  · intro h
    rw [← lt_dgt (by omega : dgt c < 16), List.mem_iff_getElem]
    have h2 : lets.length = 16 := rfl
    refine ⟨dgt c, by rw [List.length_take]; omega, ?_⟩
    rw [List.getElem_take, lt_at (by omega)]
theorem Wof.append {q : Nat} {u v : List UInt8} : Wof q (u ++ v) ↔ Wof q u ∧ Wof q v := by
  unfold Wof
  simp only [List.mem_append]
  exact ⟨fun h => ⟨fun c hc => h c (Or.inl hc), fun c hc => h c (Or.inr hc)⟩, fun h c hc => hc.elim (h.1 c) (h.2 c)⟩
theorem Wof.single {q : Nat} {c : UInt8} : Wof q [c] ↔ dgt c < q := by unfold Wof; simp
end Go.Proofs.YtkpmapeapiodcaaDoor

namespace Go.Proofs.YtkpmapeapiodcaaDoor
set_option linter.unusedVariables false

abbrev E3 := Int × Int × Int
def ltE (a b : E3) : Bool := decide (a.1 < b.1 ∨ (a.1 = b.1 ∧ (a.2.1 < b.2.1 ∨ (a.2.1 = b.2.1 ∧ a.2.2 < b.2.2))))
theorem ltE_iff (a b : E3) : ltE a b = true ↔ (a.1 < b.1 ∨ (a.1 = b.1 ∧ (a.2.1 < b.2.1 ∨ (a.2.1 = b.2.1 ∧ a.2.2 < b.2.2)))) := by unfold ltE; exact decide_eq_true_iff
theorem ltE_not (a b : E3) : ltE a b = false ↔ ¬ (a.1 < b.1 ∨ (a.1 = b.1 ∧ (a.2.1 < b.2.1 ∨ (a.2.1 = b.2.1 ∧ a.2.2 < b.2.2)))) := by unfold ltE; exact decide_eq_false_iff_not
theorem e3_ext {a b : E3} (h1 : a.1 = b.1) (h2 : a.2.1 = b.2.1) (h3 : a.2.2 = b.2.2) : a = b := Prod.ext h1 (Prod.ext h2 h3)
theorem ltE_irrefl (a : E3) : ltE a a = false := by rw [ltE_not]; omega
def cmpE (a b : E3) : Int := if ltE a b = true then -1 else if ltE b a = true then 1 else 0
theorem cmpE_ge (a b : E3) : decide (0 ≤ cmpE a b) = !ltE a b := by
  unfold cmpE
  cases h : ltE a b with
  | true => rfl
  | false =>
    cases h2 : ltE b a with
    | true => rfl
    | false => rfl
def okE (L S : Int) (e : E3) : Bool := decide (0 ≤ e.1 ∧ e.1 < S ∧ 0 ≤ e.2.1 ∧ e.2.1 < L ∧ 0 ≤ e.2.2 ∧ e.2.2 < S)
theorem okE_iff {L S : Int} {e : E3} : okE L S e = true ↔ (0 ≤ e.1 ∧ e.1 < S ∧ 0 ≤ e.2.1 ∧ e.2.1 < L ∧ 0 ≤ e.2.2 ∧ e.2.2 < S) := by unfold okE; exact decide_eq_true_iff
def chkF (L S : Int) : Option E3 → List E3 → Int
  | _, [] => 0
  | p, e :: r => if okE L S e = false then 2 else if (∃ q, p = some q ∧ ltE q e = false) then 10 else chkF L S (some e) r
def chkG (L S : Int) (es : List E3) : Int :=
  if L < 1 ∨ 256 < L then 12 else if S < 0 then 2 else if 64 < S ∨ 1024 < es.length then 4 else chkF L S none es
def prevE (es : List E3) (i : Nat) : Option E3 := (es.take i).getLast?
theorem prevE_zero (es : List E3) : prevE es 0 = none := rfl
theorem prevE_succ {es : List E3} {i : Nat} {e : E3} (h : es[i]? = some e) : prevE es (i + 1) = some e := by
  unfold prevE
  rw [List.take_add_one, h]; simp
theorem drop_at {α : Type} {es : List α} {i : Nat} {e : α} (h : es[i]? = some e) : es.drop i = e :: es.drop (i + 1) := by
  obtain ⟨hi, rfl⟩ := List.getElem?_eq_some_iff.1 h
  exact List.drop_eq_getElem_cons hi
theorem chkF_bad {L S : Int} {p : Option E3} {e : E3} {r : List E3} (h : okE L S e = false) : chkF L S p (e :: r) = 2 := by rw [chkF, if_pos h]
theorem chkF_order {L S : Int} {q e : E3} {r : List E3} (h : okE L S e = true) (h2 : ltE q e = false) : chkF L S (some q) (e :: r) = 10 := by
  rw [chkF, if_neg (by rw [h]; decide), if_pos ⟨q, rfl, h2⟩]
theorem chkF_step {L S : Int} {p : Option E3} {e : E3} {r : List E3} (h : okE L S e = true) (h2 : ∀ q, p = some q → ltE q e = true) : chkF L S p (e :: r) = chkF L S (some e) r := by
  rw [chkF, if_neg (by rw [h]; decide), if_neg]
  rintro ⟨q, rfl, h3⟩
  rw [h2 q rfl] at h3; cases h3
theorem chkF_fine {L S : Int} : ∀ {p : Option E3} {es : List E3}, (∀ e ∈ es, okE L S e = true) → es.Pairwise (fun a b => ltE a b = true) → (∀ q, p = some q → ∀ e ∈ es, ltE q e = true) → chkF L S p es = 0
  | p, [], _, _, _ => rfl
  | p, e :: r, h1, h2, h3 => by
    rw [chkF_step (h1 e List.mem_cons_self) (fun q hq => h3 q hq e List.mem_cons_self)]
    obtain ⟨a, b⟩ := List.pairwise_cons.1 h2
    exact chkF_fine (fun x hx => h1 x (List.mem_cons_of_mem _ hx)) b (fun q hq x hx => by injection hq with hq; subst hq; exact a x hx)
structure VG (L S : Int) (es : List E3) : Prop where
  l1 : 1 ≤ L
  l2 : L ≤ 256
  s1 : 0 ≤ S
  s2 : S ≤ 64
  len : es.length ≤ 1024
  ok : ∀ e ∈ es, okE L S e = true
  asc : es.Pairwise (fun a b => ltE a b = true)
theorem VG.chk {L S : Int} {es : List E3} (h : VG L S es) : chkG L S es = 0 := by
  unfold chkG
  rw [if_neg (by have := h.l1; have := h.l2; omega), if_neg (by have := h.s1; omega), if_neg (by have := h.s2; have := h.len; omega)]
  exact chkF_fine h.ok h.asc (fun q hq => by cases hq)
def chkS (S : Int) : Option Int → List Int → Int
  | _, [] => 0
  | p, s :: r => if s < 0 ∨ S ≤ s then 25 else if (∃ q, p = some q ∧ s ≤ q) then 10 else chkS S (some s) r
theorem chkS_step {S : Int} {p : Option Int} {s : Int} {r : List Int} (h : ¬ (s < 0 ∨ S ≤ s)) (h2 : ∀ q, p = some q → q < s) : chkS S p (s :: r) = chkS S (some s) r := by
  rw [chkS, if_neg h, if_neg]
  rintro ⟨q, rfl, h3⟩
  have := h2 q rfl
  omega
theorem chkS_fine {S : Int} : ∀ {p : Option Int} {l : List Int}, (∀ s ∈ l, 0 ≤ s ∧ s < S) → l.Pairwise (· < ·) → (∀ q, p = some q → ∀ s ∈ l, q < s) → chkS S p l = 0
  | p, [], _, _, _ => rfl
  | p, s :: r, h1, h2, h3 => by
    rw [chkS_step (by have := h1 s List.mem_cons_self; omega) (fun q hq => h3 q hq s List.mem_cons_self)]
    obtain ⟨a, b⟩ := List.pairwise_cons.1 h2
    exact chkS_fine (fun x hx => h1 x (List.mem_cons_of_mem _ hx)) b (fun q hq x hx => by injection hq with hq; subst hq; exact a x hx)
structure SG (S : Int) (l : List Int) : Prop where
  bd : ∀ s ∈ l, 0 ≤ s ∧ s < S
  asc : l.Pairwise (· < ·)
theorem SG.chk {S : Int} {l : List Int} (h : SG S l) : chkS S none l = 0 := chkS_fine h.bd h.asc (fun q hq => by cases hq)
end Go.Proofs.YtkpmapeapiodcaaDoor

namespace Go.Proofs.YtkpmapeapiodcaaDoor
open Go.RowKit
set_option linter.unusedSimpArgs false
set_option linter.unusedVariables false

theorem cell_keep {Wp W1 : World} {p : Addr} {v : Value} (h : Wp.cell? p = some v) (hb : Below Wp.heap.size Wp W1) : W1.cell? p = some v := (hb.cell (World.block_lt_of_cell? _ _ h)).trans h
theorem frozen_keep {Wp W1 : World} {p : Addr} {v : Value} {b : Bool} (h : Wp.cell? p = some v) (hf : Wp.frozen? p = b) (hb : Below Wp.heap.size Wp W1) : W1.frozen? p = b := (hb.frozen (World.block_lt_of_cell? _ _ h)).trans hf
theorem below1 (w : World) (o1 : Obj) : Below w.heap.size w (w.alloc o1) := (Below.refl _ w).alloc (Nat.le_refl _) _
theorem below_more {B : Nat} {w w1 w2 : World} (h : Below B w w1) (hB : B ≤ w.heap.size) (k : Below w1.heap.size w1 w2) : Below B w w2 := h.trans (k.mono (by have := h.size; omega))
theorem grown_none {w w' : World} (h : Below w.heap.size w w') : w.grownBy w' none := ⟨h.os, h.tape, h.output, h.size, fun k hk _ => h.block k hk⟩
theorem below_drewM {B : Nat} {w W : World} (h : Below B w W) (q : Nat) : Below B w (W.drewN q) := ⟨h.os, h.tape, h.output, h.size, h.block⟩
theorem own_slice {W : World} {B t k n : Nat} {v : Value} {xs : List Value} (h : W.ownsRow B t k v n xs) : ∃ a c, v = .slice a n c := by
  rcases h.2 with ⟨h1, h2⟩ | ⟨g, cap, cur, h1, _⟩
  · exact ⟨none, 0, by rw [h1, h2]⟩
  · exact ⟨_, _, h1⟩
theorem own_low {W : World} {A B t k n : Nat} {v : Value} {xs : List Value} (h : W.ownsRow B t k v n xs) (hA : A ≤ B) : W.ownsRow A t k v n xs := by
  refine ⟨h.1, ?_⟩
  rcases h.2 with h1 | ⟨g, cap, cur, h1, h2, h3⟩
  · exact .inl h1
  · exact .inr ⟨g, cap, cur, h1, Nat.le_trans hA h2, h3⟩
/-! ### Integers -/
def intz (l : List Int) : List Value := l.map (Value.int .i64)
theorem intz_snoc (l : List Int) (z : Int) : intz (l ++ [z]) = intz l ++ [.int .i64 z] := by unfold intz; rw [List.map_append]; rfl
def IntsAt (W : World) (B : Nat) (v : Value) (l : List Int) : Prop := W.ownsRow B 3 1 v l.length (intz l)
def IntsRd (W : World) (v : Value) (l : List Int) : Prop := ∃ a c, v = .slice a l.length c ∧ ∀ (i : Nat) (x : Int), l[i]? = some x → ∃ b off, a = some ⟨b, off, none⟩ ∧ W.cell? ⟨b, off + i, none⟩ = some (.int .i64 x)
section
variable {W W' : World} {B : Nat} {v : Value} {l : List Int}
theorem IntsAt.keep (h : IntsAt W B v l) (hb : Below W.heap.size W W') : IntsAt W' B v l := World.ownsRow.kept h (grown_none hb) (by cases v.ownBlock <;> simp)
theorem IntsAt.slice (h : IntsAt W B v l) : ∃ a c, v = .slice a l.length c := own_slice h
theorem IntsAt.row (h : IntsAt W B v l) (h0 : 0 < l.length) : ∃ g c, v = .slice (some ⟨g, 0, none⟩) l.length c := by
  obtain ⟨g, c, hv, _⟩ := World.ownsRow.form h h0
  exact ⟨g, c, hv⟩
theorem IntsAt.cell {g c i : Nat} {x : Int} (h : IntsAt W B (.slice (some ⟨g, 0, none⟩) l.length c) l) (hx : l[i]? = some x) : W.cell? ⟨g, i, none⟩ = some (.int .i64 x) := by
  have hi : i < l.length := (List.getElem?_eq_some_iff.1 hx).1
  rw [World.ownsRow.cellAt h i (by omega)]
  unfold intz
  rw [List.getElem?_map, hx]; rfl
theorem IntsAt.rd (h : IntsAt W B v l) : IntsRd W v l := by
  obtain ⟨a, c, rfl⟩ := h.slice
  refine ⟨a, c, rfl, fun i x hx => ?_⟩
  have hi : i < l.length := (List.getElem?_eq_some_iff.1 hx).1
  obtain ⟨g, c2, hv⟩ := h.row (by omega)
  injection hv with e1 e2 e3
  subst e1
  exact ⟨g, 0, rfl, by rw [Nat.zero_add]; exact IntsAt.cell h hx⟩
theorem IntsRd.keep (h : IntsRd W v l) (hb : Below W.heap.size W W') : IntsRd W' v l := by
  obtain ⟨a, c, rfl, h1⟩ := h
  refine ⟨a, c, rfl, fun i x hx => ?_⟩
  obtain ⟨b, off, rfl, k⟩ := h1 i x hx
  exact ⟨b, off, rfl, cell_keep k hb⟩
end
theorem ints_nil (W : World) (B : Nat) : IntsAt W B (.slice none 0 0) [] := World.ownsRow_nil _ _ _ _
theorem Tryd.infoI64 : (Tryd.prog.info? 3).map (fun i => (i.zero, i.size, i.bytes)) = some (some (.int .i64 0), 1, 8) := by kernel_rfl
/-! ### Edges -/
def encE (e : E3) : List Value := [.int .i64 e.1, .int .i64 e.2.1, .int .i64 e.2.2]
abbrev edgV (e : E3) : Value := .agg #[.int .i64 e.1, .int .i64 e.2.1, .int .i64 e.2.2]
def ecl (es : List E3) : List Value := es.flatMap encE
theorem ecl_snoc (es : List E3) (e : E3) : ecl (es ++ [e]) = ecl es ++ [.int .i64 e.1, .int .i64 e.2.1, .int .i64 e.2.2] := by unfold ecl; rw [List.flatMap_append]; rfl
theorem ecl_len (es : List E3) : (ecl es).length = es.length * 3 := by
  induction es with
  | nil => rfl
  | cons p rs ih => show (_ :: _ :: _ :: ecl rs).length = _; rw [List.length_cons, List.length_cons, List.length_cons, ih, List.length_cons]; omega
theorem ecl_at {es : List E3} : ∀ {i : Nat} {e : E3}, es[i]? = some e → (ecl es)[i * 3]? = some (.int .i64 e.1) ∧ (ecl es)[i * 3 + 1]? = some (.int .i64 e.2.1) ∧ (ecl es)[i * 3 + 2]? = some (.int .i64 e.2.2) := by
  induction es with
  | nil => intro i p h; cases h
  | cons q rs ih =>
    intro i p h
    cases i with
    | zero => simp at h; subst h; exact ⟨rfl, rfl, rfl⟩
    | succ i =>
      have := ih (i := i) (by simpa using h)
      rw [show (i + 1) * 3 = i * 3 + 1 + 1 + 1 by omega]
      exact this
def EdgesAt (W : World) (B : Nat) (v : Value) (es : List E3) : Prop := W.ownsRow B 45 3 v es.length (ecl es)
def EdgesRd (W : World) (v : Value) (es : List E3) : Prop := ∃ a c, v = .slice a es.length c ∧ ∀ (i : Nat) (e : E3), es[i]? = some e → ∃ b off, a = some ⟨b, off, none⟩ ∧
  W.cell? ⟨b, off + i * 3, none⟩ = some (.int .i64 e.1) ∧ W.cell? ⟨b, off + i * 3 + 1, none⟩ = some (.int .i64 e.2.1) ∧ W.cell? ⟨b, off + i * 3 + 2, none⟩ = some (.int .i64 e.2.2)
section
variable {W W' : World} {B : Nat} {v : Value} {es : List E3}
theorem EdgesAt.keep (h : EdgesAt W B v es) (hb : Below W.heap.size W W') : EdgesAt W' B v es := World.ownsRow.kept h (grown_none hb) (by cases v.ownBlock <;> simp)
theorem EdgesAt.slice (h : EdgesAt W B v es) : ∃ a c, v = .slice a es.length c := own_slice h
theorem EdgesAt.row (h : EdgesAt W B v es) (h0 : 0 < es.length) : ∃ g c, v = .slice (some ⟨g, 0, none⟩) es.length c := by
  obtain ⟨g, c, hv, _⟩ := World.ownsRow.form h h0
  exact ⟨g, c, hv⟩
theorem EdgesAt.cell {g c i : Nat} {e : E3} (h : EdgesAt W B (.slice (some ⟨g, 0, none⟩) es.length c) es) (hx : es[i]? = some e) :
    W.cell? ⟨g, i * 3, none⟩ = some (.int .i64 e.1) ∧ W.cell? ⟨g, i * 3 + 1, none⟩ = some (.int .i64 e.2.1) ∧ W.cell? ⟨g, i * 3 + 2, none⟩ = some (.int .i64 e.2.2) := by
  have hi : i < es.length := (List.getElem?_eq_some_iff.1 hx).1
  obtain ⟨k1, k2, k3⟩ := ecl_at hx
  exact ⟨(World.ownsRow.cellAt h (i * 3) (by omega)).trans k1, (World.ownsRow.cellAt h (i * 3 + 1) (by omega)).trans k2, (World.ownsRow.cellAt h (i * 3 + 2) (by omega)).trans k3⟩
theorem EdgesAt.rd (h : EdgesAt W B v es) : EdgesRd W v es := by
  obtain ⟨a, c, rfl⟩ := h.slice
  refine ⟨a, c, rfl, fun i e hx => ?_⟩
  have hi : i < es.length := (List.getElem?_eq_some_iff.1 hx).1
  obtain ⟨g, c2, hv⟩ := h.row (by omega)
  injection hv with e1 e2 e3
  subst e1
  exact ⟨g, 0, rfl, by rw [Nat.zero_add]; exact EdgesAt.cell h hx⟩
theorem EdgesRd.keep (h : EdgesRd W v es) (hb : Below W.heap.size W W') : EdgesRd W' v es := by
  obtain ⟨a, c, rfl, h1⟩ := h
  refine ⟨a, c, rfl, fun i x hx => ?_⟩
  obtain ⟨b, off, rfl, k1, k2, k3⟩ := h1 i x hx
  exact ⟨b, off, rfl, cell_keep k1 hb, cell_keep k2 hb, cell_keep k3 hb⟩
end
theorem edges_nil (W : World) (B : Nat) : EdgesAt W B (.slice none 0 0) [] := World.ownsRow_nil _ _ _ _
theorem Tryd.infoEdge : (Tryd.prog.info? 45).map (fun i => (i.zero, i.size, i.bytes)) = some (some (.agg #[.int .i64 0, .int .i64 0, .int .i64 0]), 3, 24) := by kernel_rfl
theorem cell_three_new (w : World) (x y z : Value) (t : TypeId) : ∀ j u, [x, y, z][j]? = some u → (w.alloc (.cells #[x, y, z] t)).cell? ((⟨w.heap.size, 0, none⟩ : Addr).add j) = some u := by
  intro j u hj
  match j, hj with
  | 0, hj => simp at hj; subst hj; simp [Addr.add]
  | 1, hj => simp at hj; subst hj; simp [Addr.add]
  | 2, hj => simp at hj; subst hj; simp [Addr.add]
/-! ### Comparing -/
def cmpI (x y : Int) : Int := if x < y then -1 else if y < x then 1 else 0
set_option maxRecDepth 100000 in
set_option maxHeartbeats 1600000 in
theorem cmpInt_any (x y : Int) (w : World) : Calls Tryd.prog 49 #[.int .i64 x, .int .i64 y] w fun e w' => e = .returned (.int .i64 (cmpI x y)) ∧ w' = w := by
  have ex : (x == x) = true := by simp
  have ey : (y == y) = true := by simp
  have ex2 : (x != x) = false := by simp
  have ey2 : (y != y) = false := by simp
  rcases (show x < y ∨ x = y ∨ y < x by omega) with h | h | h
  · have d1 : decide (x < y) = true := decide_eq_true h
    have d2 : decide (y < x) = false := decide_eq_false (by omega)
    have d3 : (x == y) = false := by rw [beq_eq_false_iff_ne]; omega
    have HE := Lib.hid (show cmpI x y = -1 by unfold cmpI; rw [if_pos h])
    go_enter Tryd.func49, Tryd.ntmps49
    go_wp2
    go_ret
    exact ⟨by rw [HE.out]; rfl, rfl⟩
  · subst h
    have d1 : decide (x < x) = false := decide_eq_false (by omega)
    have HE := Lib.hid (show cmpI x x = 0 by unfold cmpI; rw [if_neg (by omega), if_neg (by omega)])
    go_enter Tryd.func49, Tryd.ntmps49
    go_wp2
    go_ret
    exact ⟨by rw [HE.out]; rfl, rfl⟩
  · have d1 : decide (x < y) = false := decide_eq_false (by omega)
    have d2 : decide (y < x) = true := decide_eq_true h
    have d3 : (x == y) = false := by rw [beq_eq_false_iff_ne]; omega
    have HE := Lib.hid (show cmpI x y = 1 by unfold cmpI; rw [if_neg (by omega), if_pos h])
    go_enter Tryd.func49, Tryd.ntmps49
    go_wp2
    go_ret
    exact ⟨by rw [HE.out]; rfl, rfl⟩
end Go.Proofs.YtkpmapeapiodcaaDoor
