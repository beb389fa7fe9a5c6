/- What graph.writeLine and graph.Print return. Condition: what strconv.Itoa returns for the numbers that occur. -/
import Derived.Test.YtoekemfgmdbnbaaDoorVo
import Derived.Test.YtoekemfgmdbnbaaDoorBld
import Derived.Lib.ItoaMem
namespace Go.Proofs.YtoekemfgmdbnbaaDoor
open Go.RowKit
set_option linter.unusedSimpArgs false
set_option linter.unusedVariables false

theorem bld_below {B b : Nat} {bs : List Value} {w w' : World} (h : Bld B b bs w) (hb : Below w.heap.size w w') : Bld B b bs w' := by
  have key : ∀ p, Lib.BuilderAt 48 5 B b p bs w → Lib.BuilderAt 48 5 B b p bs w' := fun p ⟨hB, v, hbk, hown, hne⟩ =>
    ⟨hB, v, (hb.block b (heap_lt hbk)).trans hbk, hown.kept (grown_none hb) (by cases v.ownBlock <;> simp), hne⟩
  exact h.imp (key _) (key _)
theorem strCells_mk (l : List UInt8) : Lib.strCells ⟨l.toArray⟩ = Lib.byteCells l := by simp [Lib.strCells, Lib.byteCells]
theorem byteCells_append (l m : List UInt8) : Lib.byteCells l ++ Lib.byteCells m = Lib.byteCells (l ++ m) := by simp [Lib.byteCells]
/-- A line of numbers. -/
def jnT : List Nat → List UInt8
  | [] => []
  | n :: r => Lib.decDigits n ++ r.flatMap fun m => 32 :: Lib.decDigits m
theorem jnT_snoc (l : List Nat) (n : Nat) : jnT (l ++ [n]) = jnT l ++ (if l = [] then Lib.decDigits n else 32 :: Lib.decDigits n) := by
  cases l with
  | nil => simp [jnT]
  | cons a l => simp [jnT, List.flatMap_append]
def lineT (l : List Nat) : List UInt8 := jnT l ++ [10]
theorem nDigits_le : ∀ (k u : Nat), 1 ≤ k → u < 10 ^ k → Lib.nDigits u ≤ k
  | 0, _, h, _ => absurd h (by omega)
  | k + 1, u, _, h => by
    by_cases h1 : u < 10
    · rw [Lib.nDigits_small h1]; omega
    · rw [Lib.nDigits_big h1]
      have hk : 1 ≤ k := by
        rcases k with _ | k
        · simp at h; omega
        · omega
      have := nDigits_le k (u / 10) hk (by rw [Nat.pow_succ] at h; omega)
      omega
theorem dec9 {d : Nat} (h : d < 1000000000) : 1 ≤ (Lib.decDigits d).length ∧ (Lib.decDigits d).length ≤ 9 := by
  rw [Lib.decDigits_length]
  exact ⟨Lib.nDigits_pos d, nDigits_le 9 d (by omega) (by omega)⟩
theorem jnT_len : ∀ {l : List Nat}, (∀ n ∈ l, n < 1000000000) → (jnT l).length ≤ 10 * l.length
  | [], _ => by simp [jnT]
  | n :: r, h => by
    have h1 := dec9 (h n List.mem_cons_self)
    have h2 : ∀ {r : List Nat}, (∀ n ∈ r, n < 1000000000) → (r.flatMap fun m => 32 :: Lib.decDigits m).length ≤ 10 * r.length := fun {r} hr => by
      induction r with
      | nil => simp
      | cons m r ih =>
        have h3 := dec9 (hr m List.mem_cons_self)
        have := ih (fun x hx => hr x (List.mem_cons_of_mem _ hx))
        rw [List.flatMap_cons, List.length_append, List.length_cons, List.length_cons]
        omega
    have h3 := h2 (fun x hx => h x (List.mem_cons_of_mem _ hx))
    unfold jnT
    rw [List.length_append, List.length_cons]
    omega
/-- What is known of strconv.Itoa: up to bd, where Q holds. -/
def ItoaOK (bd : Nat) (Q : World → Prop) : Prop := ∀ (d : Nat) W, d ≤ bd → Q W → Calls Tryd.prog 28 #[.int .i64 (d : Int)] W fun e w' => e = .returned (.string ⟨(Lib.decDigits d).toArray⟩) ∧ Below W.heap.size W w'
/-- A row of numbers. -/
def NRow (W : World) (g : Nat) (ns : List Nat) : Prop := ∃ cur fz, W.heap[g]? = some (.cells cur 3 fz) ∧ ∀ (i n : Nat), ns[i]? = some n → cur[i]? = some (.int .i64 (n : Int))
theorem NRow.cell {W : World} {g : Nat} {ns : List Nat} (h : NRow W g ns) {i n : Nat} (hi : ns[i]? = some n) : W.cell? ⟨g, i, none⟩ = some (.int .i64 (n : Int)) := by
  obtain ⟨cur, fz, h1, h2⟩ := h
  rw [Lib.cell_of_heap h1]; exact h2 i n hi
theorem NRow.keep {W W' : World} {g : Nat} {ns : List Nat} (h : NRow W g ns) (hb : Below W.heap.size W W') : NRow W' g ns := by
  obtain ⟨cur, fz, h1, h2⟩ := h
  exact ⟨cur, fz, (hb.block g (heap_lt h1)).trans h1, h2⟩
theorem NRow.keepT {W W' : World} {g : Nat} {ns : List Nat} (h : NRow W g ns) (hk : KeepT W W') : NRow W' g ns := by
  obtain ⟨cur, fz, h1, h2⟩ := h
  exact ⟨cur, fz, hk g cur _ fz h1 (by decide) (by decide), h2⟩
set_option maxRecDepth 100000 in
set_option maxHeartbeats 6400000 in
theorem writeLine_any {bd : Nat} {Q : World → Prop} (hbd : bd < 1000000000) (HI : ItoaOK bd Q) (B b g : Nat) (hQ : ∀ W W', Q W → Below B W W' → Q W') (bs : List UInt8) (ns : List Nat) (c : Nat) (w : World)
    (h : Bld B b (Lib.byteCells bs) w) (hBw : B ≤ w.heap.size) (hr : NRow w g ns) (hq : Q w) (hd : ∀ n ∈ ns, n ≤ bd) (hlen : bs.length + 10 * ns.length ≤ 900000000) :
    Calls Tryd.prog 17 #[.pointer (some ⟨b, 0, none⟩), .slice (some ⟨g, 0, none⟩) ns.length c] w fun e w' => e = .returned (.tuple #[]) ∧ Bld B b (Lib.byteCells (bs ++ lineT ns)) w' ∧ Below B w w' ∧ Q w' := by
  have HII := Lib.hid (show ∀ (d : Nat) W, d ≤ bd → Q W → Calls Tryd.prog 28 #[.int .i64 (d : Int)] W fun e w' => e = .returned (.string ⟨(Lib.decDigits d).toArray⟩) ∧ Below W.heap.size W w' from HI)
  have HQQ := Lib.hid hQ
  have HD := Lib.hid hd
  clear HI hQ hd
  go_enter Tryd.func17, Tryd.ntmps17
  go_wp2_with fail
  go_loopg [8] ns.length (fun q s8 wx => ∃ i : Nat, i + q = ns.length ∧ s8 = .int .i64 (i : Int) ∧ Hid (Bld B b (Lib.byteCells (bs ++ jnT (ns.take i))) wx ∧ Below B w wx ∧ NRow wx g ns ∧ Q wx))
  case atStart => exact ⟨0, by omega, rfl, Lib.hid ⟨by rw [List.take_zero]; simpa [jnT] using h, Below.refl _ _, hr, hq⟩⟩
  case round =>
    clear h hr hq
    obtain ⟨i, hi, rfl, H⟩ := hrel
    rcases gk with _ | q
    · obtain rfl : i = ns.length := by omega
      have H2 := H.out
      rw [List.take_length] at H2
      have HH := Lib.hid H2
      have hl : (Lib.byteCells (bs ++ jnT ns)).length ≤ 1000000000 := by
        rw [Lib.byteCells_length, List.length_append]
        have := jnT_len (l := ns) (fun n hn => by have := HD.out n hn; omega)
        omega
      have hs : B ≤ wr.heap.size := Nat.le_trans hBw HH.out.2.1.size
      clear H H2
      go_wp2_with (go_at_call 27; (with_reducible refine (writeByte_any B b _ _ _ (And.left HH.out) hl hs).mono ?_); rintro e0 W1 ⟨rfl, o1, b1, -⟩; (have O1 := Lib.hid o1); (have B1 := Lib.hid b1); (clear o1 b1))
      go_end0
      have h3 := O1.out
      rw [show Lib.byteCells (bs ++ jnT ns) ++ [Value.int .u8 10] = Lib.byteCells (bs ++ lineT ns) by rw [show [Value.int .u8 10] = Lib.byteCells [10] from rfl, byteCells_append]; unfold lineT; rw [List.append_assoc]] at h3
      exact ⟨rfl, Or.inr h3, HH.out.2.1.trans B1.out, HQQ.out _ _ HH.out.2.2.2 B1.out⟩
    · obtain ⟨n, hn⟩ : ∃ n, ns[i]? = some n := ⟨_, List.getElem?_eq_getElem (by omega)⟩
      have hnb := HD.out n (List.mem_of_getElem? hn)
      have hcell := H.out.2.2.1.cell hn
      have HS := Lib.hid (show jnT (ns.take (i + 1)) = jnT (ns.take i) ++ (if ns.take i = [] then Lib.decDigits n else 32 :: Lib.decDigits n) by rw [take_snoc hn]; exact jnT_snoc _ _)
      have hl : (Lib.byteCells (bs ++ jnT (ns.take i))).length ≤ 900000000 := by
        rw [Lib.byteCells_length, List.length_append]
        have := jnT_len (l := ns.take i) (fun m hm => by have := HD.out m (List.mem_of_mem_take hm); omega)
        rw [List.length_take] at this
        omega
      have hs : B ≤ wr.heap.size := Nat.le_trans hBw H.out.2.1.size
      have j1 : (i : Int) < (ns.length : Int) := by omega
      have hw1 : IntKind.i64.wrap ((i : Int) + 1) = (i : Int) + 1 := by rw [IntKind.wrap_i64]; omega
      obtain ⟨s, hss⟩ : ∃ s : ByteArray, s = ⟨(Lib.decDigits n).toArray⟩ := ⟨_, rfl⟩
      have HIN := Lib.hid (fun W h => HII.out n W hnb h)
      simp only [← hss] at HIN
      have Hs : Hid (Lib.strCells s = Lib.byteCells (Lib.decDigits n)) := by show _ = _; rw [hss, strCells_mk]
      have hz9 : s.size ≤ 9 := by rw [hss]; exact (dec9 (d := n) (by omega)).2
      clear hss hn hnb
      rcases Nat.eq_zero_or_pos i with h0 | h0
      · have d6 : decide ((0 : Int) < (i : Int)) = false := decide_eq_false (by omega)
        have d7 : decide (0 < i) = false := decide_eq_false (by omega)
        have HS2 := Lib.hid (show jnT (ns.take (i + 1)) = jnT (ns.take i) ++ Lib.decDigits n by rw [HS.out, if_pos (by rw [h0]; rfl)])
        clear HS h0
        go_wp2_with (first
          | (go_at_call 28; (with_reducible refine (HIN.out _ (And.right (And.right (And.right H.out)))).mono ?_); rintro e0 W1 ⟨rfl, b1⟩; (have h1 := Lib.hid (bld_below H.out.1 b1)); (have hs1 := Nat.le_trans hs b1.size); (have B1 := Lib.hid b1); (clear b1))
          | (go_at_call 16; (with_reducible refine (writeString_any B b _ s _ h1.out (by omega) hs1).mono ?_); rintro e0 W2 ⟨rfl, o2, b2, k2⟩; (have O2 := Lib.hid o2); (have B2 := Lib.hid b2); (have K2 := Lib.hid k2); (clear o2 b2 k2)))
        go_roundg q
        case measure => omega
        case rel =>
          refine ⟨i + 1, by omega, by go_num, Lib.hid ⟨?_, (H.out.2.1.trans (B1.out.mono hs)).trans B2.out, (H.out.2.2.1.keep B1.out).keepT K2.out, HQQ.out _ _ (HQQ.out _ _ H.out.2.2.2 (B1.out.mono hs)) B2.out⟩⟩
          have h3 := O2.out
          rw [Hs.out, byteCells_append, List.append_assoc, ← HS2.out] at h3
          exact Or.inr h3
      · have d6 : decide ((0 : Int) < (i : Int)) = true := decide_eq_true (by omega)
        have d7 : decide (0 < i) = true := decide_eq_true (by omega)
        have HS2 := Lib.hid (show jnT (ns.take (i + 1)) = jnT (ns.take i) ++ 32 :: Lib.decDigits n by rw [HS.out, if_neg]; intro e; have := congrArg List.length e; rw [List.length_take, List.length_nil] at this; omega)
        have hl2 : (Lib.byteCells (bs ++ jnT (ns.take i)) ++ [Value.int .u8 32]).length + s.size ≤ 1000000000 := by rw [List.length_append, List.length_singleton]; omega
        clear HS h0
        go_wp2_with (first
          | (go_at_call 27; (with_reducible refine (writeByte_any B b _ _ _ (And.left H.out) (by omega) hs).mono ?_); rintro e0 W0 ⟨rfl, o0, b0, k0⟩; (have O0 := Lib.hid (show Bld B b _ W0 from Or.inr o0)); (have B0 := Lib.hid b0); (have K0 := Lib.hid k0); (have Q0 := Lib.hid (HQQ.out _ _ H.out.2.2.2 b0)); (have hs0 := Nat.le_trans hs b0.size); (clear o0 b0 k0))
          | (go_at_call 28; (with_reducible refine (HIN.out _ Q0.out).mono ?_); rintro e0 W1 ⟨rfl, b1⟩; (have h1 := Lib.hid (bld_below O0.out b1)); (have hs1 := Nat.le_trans hs0 b1.size); (have B1 := Lib.hid b1); (clear b1))
          | (go_at_call 16; (with_reducible refine (writeString_any B b _ s _ h1.out hl2 hs1).mono ?_); rintro e0 W2 ⟨rfl, o2, b2, k2⟩; (have O2 := Lib.hid o2); (have B2 := Lib.hid b2); (have K2 := Lib.hid k2); (clear o2 b2 k2)))
        go_roundg q
        case measure => omega
        case rel =>
          refine ⟨i + 1, by omega, by go_num, Lib.hid ⟨?_, ((H.out.2.1.trans B0.out).trans (B1.out.mono hs0)).trans B2.out, ((H.out.2.2.1.keepT K0.out).keep B1.out).keepT K2.out, HQQ.out _ _ (HQQ.out _ _ Q0.out (B1.out.mono hs0)) B2.out⟩⟩
          have h3 := O2.out
          rw [Hs.out, show [Value.int .u8 32] = Lib.byteCells [32] from rfl, byteCells_append, byteCells_append, List.append_assoc, List.append_assoc, List.singleton_append, ← HS2.out] at h3
          exact Or.inr h3
end Go.Proofs.YtoekemfgmdbnbaaDoor
