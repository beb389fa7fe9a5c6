/- What graph.Print returns for a valid graph: its text. Condition: what strconv.Itoa returns for the numbers that occur. -/
import Derived.Test.YtoekemfgmdbnbaaDoorVp
namespace Go.Proofs.YtoekemfgmdbnbaaDoor
open Go.RowKit
set_option linter.unusedSimpArgs false
set_option linter.unusedVariables false

abbrev gph : List UInt8 := [103, 114, 97, 112, 104, 32]
def lineE (e : E3) : List UInt8 := lineT [e.1.toNat, e.2.1.toNat, e.2.2.toNat]
/-- The text of a graph. -/
def prG (L n : Nat) (es : List E3) : List UInt8 := gph ++ lineT [L, n] ++ es.flatMap lineE
theorem lineE_len {e : E3} {bd : Nat} (hbd : bd < 1000000000) (h : e.1.toNat ≤ bd ∧ e.2.1.toNat ≤ bd ∧ e.2.2.toNat ≤ bd) : (lineE e).length ≤ 31 := by
  unfold lineE lineT
  rw [List.length_append]
  have := jnT_len (l := [e.1.toNat, e.2.1.toNat, e.2.2.toNat]) (fun n hn => by simp at hn; omega)
  simp at this ⊢
  omega
theorem linesE_len {bd : Nat} (hbd : bd < 1000000000) : ∀ {es : List E3}, (∀ e ∈ es, e.1.toNat ≤ bd ∧ e.2.1.toNat ≤ bd ∧ e.2.2.toNat ≤ bd) → (es.flatMap lineE).length ≤ 31 * es.length
  | [], _ => by simp
  | e :: es, h => by
    have h1 := lineE_len hbd (h e List.mem_cons_self)
    have h2 := linesE_len hbd (es := es) (fun x hx => h x (List.mem_cons_of_mem _ hx))
    rw [List.flatMap_cons, List.length_append, List.length_cons]
    omega
theorem lineT2_len {a b : Nat} (ha : a < 1000000000) (hb : b < 1000000000) : (lineT [a, b]).length ≤ 21 := by
  unfold lineT
  rw [List.length_append]
  have := jnT_len (l := [a, b]) (fun n hn => by simp at hn; omega)
  simp at this ⊢
  omega
theorem nrow2 (W : World) (x y : Nat) : NRow (W.alloc (.cells #[.int .i64 (x : Int), .int .i64 (y : Int)] 3)) W.heap.size [x, y] := by
  refine ⟨_, _, heap_alloc_new W _, fun i n h => ?_⟩
  match i, h with
  | 0, h => simp at h; subst h; rfl
  | 1, h => simp at h; subst h; rfl
theorem nrow3 (W : World) (x y z : Nat) : NRow (W.alloc (.cells #[.int .i64 (x : Int), .int .i64 (y : Int), .int .i64 (z : Int)] 3)) W.heap.size [x, y, z] := by
  refine ⟨_, _, heap_alloc_new W _, fun i n h => ?_⟩
  match i, h with
  | 0, h => simp at h; subst h; rfl
  | 1, h => simp at h; subst h; rfl
  | 2, h => simp at h; subst h; rfl
/-- What a round of Print keeps. -/
structure PB (Q : World → Prop) (w : World) (L n : Nat) (v : Value) (b : Nat) (bs : List UInt8) (W : World) : Prop where
  bld : Bld b b (Lib.byteCells bs) W
  bel : Below w.heap.size w W
  box : BoxG W w.heap.size (L : Int) (n : Int) v
  q : Q W
  le : w.heap.size ≤ b
  sz : b ≤ W.heap.size
theorem PB.keep {Q : World → Prop} {w W W' : World} {L n : Nat} {v : Value} {b : Nat} {bs : List UInt8} (h : PB Q w L n v b bs W) (hQ : ∀ W W', Q W → Below w.heap.size W W' → Q W') (hb : Below W.heap.size W W') : PB Q w L n v b bs W' :=
  ⟨bld_below h.bld hb, h.bel.trans (hb.mono h.bel.size), h.box.keep hb, hQ _ _ h.q (hb.mono h.bel.size), h.le, Nat.le_trans h.sz hb.size⟩
theorem bld_new (W : World) : Bld W.heap.size W.heap.size (Lib.byteCells []) (W.alloc (.cells #[.pointer none, .slice none 0 0] 48)) :=
  .inl ⟨Nat.le_refl _, .slice none 0 0, heap_alloc_new W _, World.ownsRow_nil _ _ _ _, by simp [Value.ownBlock]⟩
section
variable {bd : Nat} {Q : World → Prop} {w W : World} {L n : Nat} {v : Value} {b : Nat} {bs : List UInt8}
theorem PB.box' (h : PB Q w L n v b bs W) (hwb : w.heap.size < b) {W' : World} (hb : Below b W W') : BoxG W' w.heap.size (L : Int) (n : Int) v :=
  ⟨(hb.cell (p := ⟨w.heap.size, 0, none⟩) hwb).trans h.box.1, (hb.cell (p := ⟨w.heap.size, 1, none⟩) hwb).trans h.box.2.1, (hb.cell (p := ⟨w.heap.size, 2, none⟩) hwb).trans h.box.2.2⟩
theorem line2_any (hbd : bd < 1000000000) (HI : ItoaOK bd Q) (hQ : ∀ W W', Q W → Below w.heap.size W W' → Q W') (x y : Nat) (hx : x ≤ bd) (hy : y ≤ bd) (h : PB Q w L n v b bs W) (hwb : w.heap.size < b) (hl : bs.length ≤ 800000000) :
    Calls Tryd.prog 17 #[.pointer (some ⟨b, 0, none⟩), .slice (some ⟨W.heap.size, 0, none⟩) 2 2] (W.alloc (.cells #[.int .i64 (x : Int), .int .i64 (y : Int)] 3)) fun e w' => e = .returned (.tuple #[]) ∧ PB Q w L n v b (bs ++ lineT [x, y]) w' := by
  have h1 := h.keep hQ (below1 W (.cells #[.int .i64 (x : Int), .int .i64 (y : Int)] 3))
  refine (writeLine_any hbd HI b b W.heap.size (fun W W' q hb => hQ W W' q (hb.mono h.le)) bs [x, y] 2 _ h1.bld h1.sz (nrow2 W x y) h1.q (fun n hn => by simp at hn; omega) (by simp; omega)).mono ?_
  rintro e w' ⟨rfl, k1, k2, k3⟩
  exact ⟨rfl, k1, h1.bel.trans (k2.mono h.le), h1.box' hwb k2, k3, h.le, Nat.le_trans h1.sz k2.size⟩
theorem line3_any (hbd : bd < 1000000000) (HI : ItoaOK bd Q) (hQ : ∀ W W', Q W → Below w.heap.size W W' → Q W') (x y z : Nat) (hx : x ≤ bd) (hy : y ≤ bd) (hz : z ≤ bd) (h : PB Q w L n v b bs W) (hwb : w.heap.size < b) (hl : bs.length ≤ 800000000) :
    Calls Tryd.prog 17 #[.pointer (some ⟨b, 0, none⟩), .slice (some ⟨W.heap.size, 0, none⟩) 3 3] (W.alloc (.cells #[.int .i64 (x : Int), .int .i64 (y : Int), .int .i64 (z : Int)] 3)) fun e w' => e = .returned (.tuple #[]) ∧ PB Q w L n v b (bs ++ lineT [x, y, z]) w' := by
  have h1 := h.keep hQ (below1 W (.cells #[.int .i64 (x : Int), .int .i64 (y : Int), .int .i64 (z : Int)] 3))
  refine (writeLine_any hbd HI b b W.heap.size (fun W W' q hb => hQ W W' q (hb.mono h.le)) bs [x, y, z] 3 _ h1.bld h1.sz (nrow3 W x y z) h1.q (fun n hn => by simp at hn; omega) (by simp; omega)).mono ?_
  rintro e w' ⟨rfl, k1, k2, k3⟩
  exact ⟨rfl, k1, h1.bel.trans (k2.mono h.le), h1.box' hwb k2, k3, h.le, Nat.le_trans h1.sz k2.size⟩
end
set_option maxRecDepth 100000 in
set_option maxHeartbeats 6400000 in
theorem print_good {bd : Nat} {Q : World → Prop} (hbd : bd < 1000000000) (HI : ItoaOK bd Q) (L n : Nat) (es : List E3) (v : Value) (w : World) (hQ : ∀ W W', Q W → Below w.heap.size W W' → Q W') (hrd : EdgesRd w v es) (hvg : VG (L : Int) (n : Int) es) (hq : Q w)
    (hm : L ≤ bd ∧ n ≤ bd ∧ ∀ e ∈ es, e.1.toNat ≤ bd ∧ e.2.1.toNat ≤ bd ∧ e.2.2.toNat ≤ bd) :
    Calls Tryd.prog 6 #[grV (L : Int) (n : Int) v] w fun e w' => e = .returned (.tuple #[.string ⟨(prG L n es).toArray⟩, .int .i64 0]) ∧ Below w.heap.size w w' := by
  have HRD := Lib.hid hrd
  have hlen := hvg.len
  have HV := Lib.hid (fun W h => isValid_any (L : Int) (n : Int) es v W h (by omega))
  have K0 := Lib.hid (BoxG.new w (L : Int) (n : Int) v 24)
  have H0 := Lib.hid (show (chkG (L : Int) (n : Int) es == 0) = true by rw [hvg.chk]; rfl)
  obtain ⟨m1, m2, m3⟩ := hm
  have HM := Lib.hid m3
  have HQ := Lib.hid hQ
  have Hq := Lib.hid hq
  have HOK := Lib.hid hvg.ok
  have H12 := Lib.hid (And.intro m1 m2)
  have HL2 := Lib.hid (fun b bs W (h : PB Q w L n v b bs W) (hwb : w.heap.size < b) (hl : bs.length ≤ 800000000) => line2_any hbd HI hQ L n m1 m2 h hwb hl)
  have HL3 := Lib.hid (fun b bs W (x y z : Nat) hx hy hz (h : PB Q w L n v b bs W) (hwb : w.heap.size < b) (hl : bs.length ≤ 800000000) => line3_any hbd HI hQ x y z hx hy hz h hwb hl)
  obtain ⟨a, c, rfl⟩ := hrd.form
  clear hrd hvg hQ hq m3 HI
  go_enter Tryd.func6, Tryd.ntmps6
  go_wp2_with (first
    | (go_at_call 15; (with_reducible refine (HV.out _ (HRD.out.keep (below1 _ _))).mono ?_); rintro e0 W1 ⟨rfl, b1⟩; (rw [H0.out]); (have B1 := Lib.hid (below_more (below1 w _) (Nat.le_refl _) b1)); (have hwb := Nat.lt_of_lt_of_le (Nat.lt_succ_self w.heap.size) (by have := b1.size; rw [World.size_alloc] at this; exact this)); (have P1 := Lib.hid (show PB Q w L n (.slice a es.length c) W1.heap.size [] (W1.alloc (.cells #[.pointer none, .slice none 0 0] 48)) from ⟨bld_new W1, below_more B1.out (Nat.le_refl _) (below1 _ _), (K0.out.keep b1).keep (below1 _ _), HQ.out _ _ (HQ.out _ _ Hq.out B1.out) ((below1 W1 _).mono B1.out.size), B1.out.size, (below1 W1 _).size⟩)); (clear b1))
    | (go_at_call 16; (with_reducible refine (writeString_any W1.heap.size W1.heap.size _ ⟨#[103, 114, 97, 112, 104, 32]⟩ _ (PB.bld P1.out) (by decide) (PB.sz P1.out)).mono ?_); rintro e0 W2 ⟨rfl, o2, b2, -⟩; (have P2 := Lib.hid (show PB Q w L n (.slice a es.length c) W1.heap.size gph W2 from ⟨Or.inr o2, P1.out.bel.trans (b2.mono P1.out.le), P1.out.box' hwb b2, HQ.out _ _ P1.out.q (b2.mono P1.out.le), P1.out.le, Nat.le_trans P1.out.sz b2.size⟩)); (clear o2 b2 P1); (obtain ⟨g1, g2, g3⟩ := id P2.out.box))
    | (go_at_call 17; (with_reducible refine (HL2.out _ _ _ P2.out hwb (by decide)).mono ?_); rintro e0 W3 ⟨rfl, p3⟩; (have P3 := Lib.hid p3); (clear p3 P2 g1 g2 g3); (obtain ⟨g1, g2, g3⟩ := id P3.out.box)))
  obtain ⟨b, hb⟩ : ∃ b, W1.heap.size = b := ⟨_, rfl⟩
  rw [hb] at P3 hwb
  rw [hb]
  clear hb B1
  go_loopg [20] es.length (fun q s20 wx => ∃ i : Nat, i + q = es.length ∧ s20 = .int .i64 (i : Int) ∧ Hid (PB Q w L n (.slice a es.length c) b (gph ++ lineT [L, n] ++ (es.take i).flatMap lineE) wx))
  case atStart => exact ⟨0, by omega, rfl, by rw [List.take_zero, List.flatMap_nil, List.append_nil]; exact P3⟩
  case round =>
    clear P3 g1 g2 g3
    obtain ⟨i, hi, rfl, H⟩ := hrel
    have hlb : (gph ++ lineT [L, n] ++ (es.take i).flatMap lineE).length ≤ 800000000 := by
      rw [List.length_append, List.length_append]
      have h1 := lineT2_len (a := L) (b := n) (by omega) (by omega)
      have h2 := linesE_len hbd (es := es.take i) (fun e he => HM.out e (List.mem_of_mem_take he))
      rw [List.length_take] at h2
      have : gph.length = 6 := rfl
      omega
    rcases gk with _ | q
    · obtain rfl : i = es.length := by omega
      have HT := Lib.hid (show prG L n es = gph ++ lineT [L, n] ++ (es.take es.length).flatMap lineE by rw [List.take_length]; rfl)
      rw [← HT.out] at H hlb
      clear HT
      go_wp2_with (go_at_call 18; (with_reducible refine (Tryd.Builder_String_any b b _ _ (PB.bld H.out) (PB.sz H.out)).mono ?_); rintro e0 W4 ⟨rfl, b4⟩)
      exact bodyPost_ret (v := .tuple #[.string ⟨(prG L n es).toArray⟩, .int .i64 0]) (by simp [results, Tryd.results6, go_sem]) rfl ⟨rfl, H.out.bel.trans (b4.mono H.out.le)⟩
    · obtain ⟨e, he⟩ : ∃ e, es[i]? = some e := ⟨_, List.getElem?_eq_getElem (by omega)⟩
      obtain ⟨hm1, hm2, hm3⟩ := HM.out e (List.mem_of_getElem? he)
      have hek := HOK.out e (List.mem_of_getElem? he)
      have HS := Lib.hid (show gph ++ lineT [L, n] ++ (es.take (i + 1)).flatMap lineE = gph ++ lineT [L, n] ++ (es.take i).flatMap lineE ++ lineE e by rw [take_snoc he, List.flatMap_append, List.append_assoc]; simp)
      obtain ⟨b5, off, c', hv, k1, k2, k3⟩ := (HRD.out.keep H.out.bel).at he
      injection hv with e1 e2 e3
      subst e1
      subst e3
      obtain ⟨x, y, z⟩ := e
      rw [okE_iff] at hek
      dsimp only at hek k1 k2 k3 hm1 hm2 hm3
      obtain ⟨x, rfl⟩ : ∃ m : Nat, x = (m : Int) := ⟨x.toNat, by omega⟩
      obtain ⟨y, rfl⟩ : ∃ m : Nat, y = (m : Int) := ⟨y.toNat, by omega⟩
      obtain ⟨z, rfl⟩ : ∃ m : Nat, z = (m : Int) := ⟨z.toNat, by omega⟩
      rw [Int.toNat_natCast] at hm1 hm2 hm3
      have j1 : (i : Int) < (es.length : Int) := by omega
      have HX := Lib.hid (HL3.out _ _ _ x y z hm1 hm2 hm3 (H.out.keep HQ.out (below1 wr (.cells #[.int .i64 (x : Int), .int .i64 (y : Int), .int .i64 (z : Int)] 40))) hwb hlb)
      have hsz := World.size_alloc wr (.cells #[.int .i64 (x : Int), .int .i64 (y : Int), .int .i64 (z : Int)] 40)
      rw [hsz] at HX
      clear hsz he hek e2 hlb hm1 hm2 hm3
      go_wp2_with (go_at_call 17; (with_reducible refine HX.out.mono ?_); rintro e0 W3 ⟨rfl, p3⟩; (have P3 := Lib.hid p3); (clear p3))
      go_roundg q
      case measure => omega
      case rel => exact ⟨i + 1, by omega, by go_num, by rw [HS.out]; exact P3⟩
end Go.Proofs.YtoekemfgmdbnbaaDoor
