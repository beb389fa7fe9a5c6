/- What word.Rank and word.Unrank return for words of at most 30 letters. Condition: so many letters. What the laws' rows and cards share: the tables, a world that holds them, and integers among the arguments. No condition. Plain words for the reference implementation of layer 1: leading zeros, bytes as numbers. No condition. -/
import Derived.Test.YtigdjlhihhakmaaGreatDoorQ25
import Derived.Test.YtigdjlhihhakmaaGreatDoorQ14
import Derived.Test.YtigdjlhihhakmaaGreatDoorCards
import Derived.Test.YtigdjlhihhakmaaGreatDoorTie
import Derived.WalkKit
import Derived.ProofKit
import Derived.OpenShut
import Derived.Deep.DeepHandedRow
import Derived.Lib.LaidTab
import Derived.Lib.ItoaNum
import Derived.Stop.LaidErr
import Derived.Below
import Derived.Lib.SmallJoins
import Derived.Test.YtigdjlhihhakmaaGreatDoorQ18
import Derived.Test.YtigdjlhihhakmaaGreatDoorQ07
import Derived.Test.YtigdjlhihhakmaaGreatDoorQ09
import Derived.Test.YtigdjlhihhakmaaGreatDoorQ13
import Derived.Test.YtigdjlhihhakmaaGreatDoorQ19
import Derived.Laws.BitsAllLaws

namespace Go.Proofs.YtigdjlhihhakmaaGreatDoor
open Go.RowKit
theorem checkN_own (z : Int) : checkN (sg z) (mg z) = 0 := by
  unfold checkN
  rw [zv_mg, if_pos ⟨rfl, rfl⟩]
theorem sg_nat (n : Nat) : sg (n : Int) = false := by unfold sg; exact decide_eq_false (by omega)
theorem chkL_ok {q n : Nat} (q1 : 1 ≤ q) (q2 : q ≤ 16) (hn : n ≤ 65536) : chkL (q : Int) (n : Int) = 0 := by
  unfold chkL; rw [if_pos ⟨by omega, by omega⟩, if_neg (by omega), if_neg (by omega)]
theorem unrV_good {q n z : Nat} (q1 : 1 ≤ q) (q2 : q ≤ 16) (hn : n ≤ 65536) (hz : z < q ^ n) : unrV (q : Int) (n : Int) (sg (z : Int)) (mg (z : Int)) = (unrk q n z, 0) := by
  unfold unrV
  rw [chkL_ok q1 q2 hn, checkN_own, if_neg (by omega), if_neg (by omega), zv_mg, sg_nat, Int.toNat_natCast, Int.toNat_natCast, Int.toNat_natCast, if_neg]
  rintro (h | h)
  · cases h
  · omega
theorem unrV_over {q n z : Nat} (q1 : 1 ≤ q) (q2 : q ≤ 16) (hn : n ≤ 65536) (hz : q ^ n ≤ z) : unrV (q : Int) (n : Int) (sg (z : Int)) (mg (z : Int)) = ([], 2) := by
  unfold unrV
  rw [chkL_ok q1 q2 hn, checkN_own, if_neg (by omega), if_neg (by omega), zv_mg, Int.toNat_natCast, Int.toNat_natCast, if_pos (Or.inr (by omega))]
theorem mg_small {q n z : Nat} (q2 : q ≤ 16) (hn : n ≤ 32) (hz : z ≤ q ^ n) : (mg (z : Int)).size ≤ 1000000 := by
  have h1 : (z : Int).natAbs < 4294967296 ^ 5 := by
    rw [Int.natAbs_natCast]
    refine Nat.lt_of_le_of_lt (Nat.le_trans hz (Nat.pow_le_pow_left q2 n)) ?_
    rw [show (4294967296 : Nat) = 16 ^ 8 from rfl, ← Nat.pow_mul]
    exact Nat.pow_lt_pow_right (by omega) (by omega)
  have := mg_size h1
  omega
/-- Rank where it succeeds. -/
theorem Rank_30 (q : Nat) (l : List UInt8) (w : World) (q1 : 1 ≤ q) (q2 : q ≤ 16) (hl : l.length ≤ 30) (hW : Wof q l) :
    Calls Tryz.prog 8 #[.int .i64 (q : Int), .string ⟨l.toArray⟩] w (NumOut w (rk q l) 0) :=
  rank_good q l w q1 q2 (by omega) hW (fun W => rank_30 q l W q1 q2 hl hW)
theorem Unrank_good (q n z : Nat) (w : World) (q1 : 1 ≤ q) (q2 : q ≤ 16) (hn : n ≤ 30) (hz : z < q ^ n) :
    Calls Tryz.prog 10 #[.int .i64 (q : Int), .int .i64 (n : Int), .agg #[.bool (sg (z : Int)), .string (mg (z : Int))]] w (TxOut w (unrk q n z, 0)) := by
  have := Unrank_any (q : Int) (n : Int) (sg (z : Int)) (mg (z : Int)) w (Or.inl (by rw [Int.toNat_natCast]; exact hn)) (mg_small q2 (by omega) (Nat.le_of_lt hz))
  rwa [unrV_good q1 q2 (by omega) hz] at this
theorem Unrank_over (q n z : Nat) (w : World) (q1 : 1 ≤ q) (q2 : q ≤ 16) (hn : n ≤ 30) (hz : z = q ^ n) :
    Calls Tryz.prog 10 #[.int .i64 (q : Int), .int .i64 (n : Int), .agg #[.bool (sg (z : Int)), .string (mg (z : Int))]] w (TxOut w ([], 2)) := by
  have := Unrank_any (q : Int) (n : Int) (sg (z : Int)) (mg (z : Int)) w (Or.inl (by rw [Int.toNat_natCast]; exact hn)) (mg_small q2 (by omega) (Nat.le_of_eq hz))
  rwa [unrV_over q1 q2 (by omega) (Nat.le_of_eq hz.symm)] at this
end Go.Proofs.YtigdjlhihhakmaaGreatDoor

namespace Go.Proofs.YtigdjlhihhakmaaGreatDoor
open Go.ChangeShapes Go.WideShapes Go.ChangeAt Go.RowKit
open Go.ChangeMaps (open_string shut_string)

theorem ownNone : ownKnob Tryz.prog.godebug = none := by kernel_rfl
/-- The variables that the rows list. -/
def lst : List (String × DataW Unit) := [("unicode/utf8.acceptRanges", Rows.laid_unicode_utf8_acceptRanges), ("unicode/utf8.first", Rows.laid_unicode_utf8_first)]

/-- The cells of a table of integers, or of structs of integers. -/
def litCells : DataW Unit → List Value
  | .lit (.int k n) => [.int k n]
  | _ => []
def rowCells : DataW Unit → List Value
  | .agg ps => ps.flatMap litCells
  | d => litCells d
def tabCells : DataW Unit → List Value
  | .agg ps => ps.flatMap rowCells
  | d => litCells d
def layAt (g : Nat) (cs : List Value) (h : Array Obj) : Array Obj := h.modify g fun
  | .cells _ t fr => .cells cs.toArray t fr
  | o => o
/-- A world that holds the tables. -/
noncomputable def laidWorld (os : Os) : World :=
  { World.holding Tryz.prog os ⟨#[], #[], []⟩ with heap := layAt 2 (tabCells Rows.laid_unicode_utf8_acceptRanges) (layAt 1 (tabCells Rows.laid_unicode_utf8_first) (World.holding Tryz.prog os ⟨#[], #[], []⟩).heap) }
set_option maxRecDepth 100000 in
theorem laid_met (os : Os) (args : Array Value) : laidMet Tryz.prog lst ((laidWorld os).forCall (fun _ _ => 0) ⟨#[], args, []⟩).memory :=
  laidMet_of_run' 8 (by kernel_rfl) (by kernel_rfl)

/-- No parameter of these types wants a stand-in. -/
theorem noStand : Tryz.prog.wantsStandIn 9 = false ∧ Tryz.prog.wantsStandIn 3 = false ∧ Tryz.prog.wantsStandIn 5 = false := by
  refine ⟨?_, ?_, ?_⟩ <;> kernel_rfl
end Go.Proofs.YtigdjlhihhakmaaGreatDoor

namespace Go.Proofs.YtigdjlhihhakmaaGreatDoor
open Go.RowKit

theorem trim_cons0 (l : List UInt8) : Lib.trimLeftB (0 :: l) 0 = Lib.trimLeftB l 0 := by simp [Lib.trimLeftB]
theorem trim_consN {b : UInt8} (l : List UInt8) (h : b ≠ 0) : Lib.trimLeftB (b :: l) 0 = b :: l := by simp [Lib.trimLeftB, h]
theorem trim_nil : Lib.trimLeftB [] 0 = [] := by rfl
theorem sg_zv9 (ng : Bool) (s : ByteArray) (h : vB s.data.toList ≠ 0) : sg (zv ng s) = ng := by
  unfold sg zv; cases ng <;> simp <;> omega
/-- A first byte that is not 0: the integer is canonical. -/
theorem canon_first {g : Bool} {b : UInt8} {l : List UInt8} (h : b ≠ 0) : sg (zv g ⟨(b :: l).toArray⟩) = g ∧ mg (zv g ⟨(b :: l).toArray⟩) = ⟨(b :: l).toArray⟩ := by
  have h1 : vB (⟨(b :: l).toArray⟩ : ByteArray).data.toList ≠ 0 := by
    show vB (b :: l) ≠ 0
    have := vB_ge (l := l) h
    have hp : 0 < 256 ^ l.length := Nat.pow_pos (by omega)
    omega
  refine ⟨sg_zv9 g _ h1, ?_⟩
  unfold mg
  rw [natAbs_zv]
  show (⟨(bytesOf (vB (b :: l))).toArray⟩ : ByteArray) = _
  rw [bytesOf_vB _ (by simpa using h)]
/-- What is left without leading zeros, and the sign. -/
theorem canon_trim (g : Bool) (l : List UInt8) : mg (zv g ⟨l.toArray⟩) = ⟨(Lib.trimLeftB l 0).toArray⟩ ∧ sg (zv g ⟨l.toArray⟩) = (g && !(Lib.trimLeftB l 0 == [])) := by
  have e : (zv g ⟨l.toArray⟩).natAbs = vB l := natAbs_zv g ⟨l.toArray⟩
  refine ⟨by unfold mg; rw [e, trim_bytes], ?_⟩
  rw [trim_bytes]
  by_cases h : vB l = 0
  · rw [h, bytesOf_zero]
    unfold sg zv
    have h2 : vB (⟨l.toArray⟩ : ByteArray).data.toList = 0 := h
    rw [h2]
    cases g <;> simp
  · have h2 : vB (⟨l.toArray⟩ : ByteArray).data.toList ≠ 0 := h
    rw [sg_zv9 g _ h2]
    have h3 : (bytesOf (vB l) == []) = false := by
      rw [beq_eq_false_iff_ne]
      intro e2
      exact h (bytesOf_nil.1 e2)
    rw [h3]; simp
theorem vB_take_succ {l : List UInt8} {k : Nat} {c : UInt8} (h : l[k]? = some c) : vB (l.take (k + 1)) = vB (l.take k) * 256 + c.toNat := by
  rw [List.take_add_one, h]
  exact vB_snoc _ _
theorem vB_app (a b : List UInt8) : vB (a ++ b) = vB a * 256 ^ b.length + vB b := by
  unfold vB
  rw [List.foldl_append]
  exact foldl_acc b _
theorem vB_take_le (l : List UInt8) (k : Nat) : vB (l.take k) ≤ vB l := by
  have h := vB_app (l.take k) (l.drop k)
  rw [List.take_append_drop] at h
  have h1 : vB (l.take k) * 1 ≤ vB (l.take k) * 256 ^ (l.drop k).length := Nat.mul_le_mul_left _ (Nat.pow_pos (by omega))
  omega
theorem or_256 (a b : Nat) (h : b < 256) : a * 256 ||| b = a * 256 + b := by
  have := Nat.two_pow_add_eq_or_of_lt (i := 8) (b := b) (by simpa using h) a
  rw [show (2 : Nat) ^ 8 = 256 from rfl, Nat.mul_comm] at this
  exact this.symm
theorem i64_or_nat (a b : Nat) (ha : a < 9223372036854775808) (hb : b < 9223372036854775808) : bits .or .i64 (a : Int) (b : Int) = ((a ||| b : Nat) : Int) := by
  have hx : a ||| b < 2 ^ 63 := Nat.or_lt_two_pow (by omega) (by omega)
  show IntKind.i64.wrap ((BitVec.ofInt 64 (a : Int) ||| BitVec.ofInt 64 (b : Int)).toNat : Int) = _
  rw [BitVec.toNat_or, ofInt_u64 a (by omega), ofInt_u64 b (by omega)]
  exact IntWalk.i64_in _ (by omega)
theorem i64_or_256 (a b : Nat) (ha : a * 256 + b < 9223372036854775808) (hb : b < 256) : bits .or .i64 ((a : Int) * 256) (b : Int) = ((a * 256 + b : Nat) : Int) := by
  obtain ⟨x, hx⟩ : ∃ x, x = a * 256 := ⟨_, rfl⟩
  have h := i64_or_nat x b (by omega) (by omega)
  have e1 : (x : Int) = (a : Int) * 256 := by rw [hx, Int.natCast_mul]; rfl
  have e2 : x ||| b = a * 256 + b := by rw [hx]; exact or_256 a b hb
  rw [e1, e2] at h
  exact h
/-- The order of canonical bytes. -/
theorem cmpN_len9 {A B : Nat} (h : (bytesOf A).length < (bytesOf B).length) : cmpN A B = -1 ∧ cmpN B A = 1 := by
  have hB := head_trim (bytesOf B)
  rw [trim_bytes, vB_bytesOf] at hB
  have a1 := vB_lt (bytesOf A)
  rw [vB_bytesOf] at a1
  have h2 := vB_len hB (by omega)
  rw [vB_bytesOf] at h2
  have h3 : (256 : Nat) ^ (bytesOf A).length ≤ 256 ^ ((bytesOf B).length - 1) := Nat.pow_le_pow_right (by omega) (by omega)
  have h4 : A < B := by omega
  unfold cmpN
  constructor
  · rw [if_pos h4]
  · rw [if_neg (by omega), if_pos h4]
end Go.Proofs.YtigdjlhihhakmaaGreatDoor
