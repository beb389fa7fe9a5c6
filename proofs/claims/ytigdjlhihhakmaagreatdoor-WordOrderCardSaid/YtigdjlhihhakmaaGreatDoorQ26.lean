/- What word.Rank and word.Unrank return for words of at most 30 letters. Condition: so many letters. What the laws' rows and cards share: the tables, a world that holds them, and integers among the arguments. No condition. -/
import Derived.Test.YtigdjlhihhakmaaGreatDoorQ25
import Derived.Test.YtigdjlhihhakmaaGreatDoorQ14
import Derived.Test.YtigdjlhihhakmaaGreatDoorCards
import Derived.Test.YtigdjlhihhakmaaGreatDoorTie
import Derived.WalkKit
import Derived.ProofKit
import Derived.OpenShut
import Derived.Deep.DeepHandedRow
import Derived.Lib.LaidTab
import Derived.Lib.ItoaNum
import Derived.Stop.LaidErr
import Derived.Below
import Derived.Lib.SmallJoins

namespace Go.Proofs.YtigdjlhihhakmaaGreatDoor
open Go.RowKit
theorem checkN_own (z : Int) : checkN (sg z) (mg z) = 0 := by
  unfold checkN
  rw [zv_mg, if_pos ⟨rfl, rfl⟩]
theorem sg_nat (n : Nat) : sg (n : Int) = false := by unfold sg; exact decide_eq_false (by omega)
theorem chkL_ok {q n : Nat} (q1 : 1 ≤ q) (q2 : q ≤ 16) (hn : n ≤ 65536) : chkL (q : Int) (n : Int) = 0 := by
  unfold chkL; rw [if_pos ⟨by omega, by omega⟩, if_neg (by omega), if_neg (by omega)]
theorem unrV_good {q n z : Nat} (q1 : 1 ≤ q) (q2 : q ≤ 16) (hn : n ≤ 65536) (hz : z < q ^ n) : unrV (q : Int) (n : Int) (sg (z : Int)) (mg (z : Int)) = (unrk q n z, 0) := by
  unfold unrV
  rw [chkL_ok q1 q2 hn, checkN_own, if_neg (by omega), if_neg (by omega), zv_mg, sg_nat, Int.toNat_natCast, Int.toNat_natCast, Int.toNat_natCast, if_neg]
  rintro (h | h)
  · cases h
  · omega
theorem unrV_over {q n z : Nat} (q1 : 1 ≤ q) (q2 : q ≤ 16) (hn : n ≤ 65536) (hz : q ^ n ≤ z) : unrV (q : Int) (n : Int) (sg (z : Int)) (mg (z : Int)) = ([], 2) := by
  unfold unrV
  rw [chkL_ok q1 q2 hn, checkN_own, if_neg (by omega), if_neg (by omega), zv_mg, Int.toNat_natCast, Int.toNat_natCast, if_pos (Or.inr (by omega))]
theorem mg_small {q n z : Nat} (q2 : q ≤ 16) (hn : n ≤ 32) (hz : z ≤ q ^ n) : (mg (z : Int)).size ≤ 1000000 := by
  have h1 : (z : Int).natAbs < 4294967296 ^ 5 := by
    rw [Int.natAbs_natCast]
    refine Nat.lt_of_le_of_lt (Nat.le_trans hz (Nat.pow_le_pow_left q2 n)) ?_
    rw [show (4294967296 : Nat) = 16 ^ 8 from rfl, ← Nat.pow_mul]
    exact Nat.pow_lt_pow_right (by omega) (by omega)
  have := mg_size h1
  omega
/-- Rank where it succeeds. -/
theorem Rank_30 (q : Nat) (l : List UInt8) (w : World) (q1 : 1 ≤ q) (q2 : q ≤ 16) (hl : l.length ≤ 30) (hW : Wof q l) :
    Calls Tryz.prog 8 #[.int .i64 (q : Int), .string ⟨l.toArray⟩] w (NumOut w (rk q l) 0) :=
  rank_good q l w q1 q2 (by omega) hW (fun W => rank_30 q l W q1 q2 hl hW)
theorem Unrank_good (q n z : Nat) (w : World) (q1 : 1 ≤ q) (q2 : q ≤ 16) (hn : n ≤ 30) (hz : z < q ^ n) :
    Calls Tryz.prog 10 #[.int .i64 (q : Int), .int .i64 (n : Int), .agg #[.bool (sg (z : Int)), .string (mg (z : Int))]] w (TxOut w (unrk q n z, 0)) := by
  have := Unrank_any (q : Int) (n : Int) (sg (z : Int)) (mg (z : Int)) w (Or.inl (by rw [Int.toNat_natCast]; exact hn)) (mg_small q2 (by omega) (Nat.le_of_lt hz))
  rwa [unrV_good q1 q2 (by omega) hz] at this
theorem Unrank_over (q n z : Nat) (w : World) (q1 : 1 ≤ q) (q2 : q ≤ 16) (hn : n ≤ 30) (hz : z = q ^ n) :
    Calls Tryz.prog 10 #[.int .i64 (q : Int), .int .i64 (n : Int), .agg #[.bool (sg (z : Int)), .string (mg (z : Int))]] w (TxOut w ([], 2)) := by
  have := Unrank_any (q : Int) (n : Int) (sg (z : Int)) (mg (z : Int)) w (Or.inl (by rw [Int.toNat_natCast]; exact hn)) (mg_small q2 (by omega) (Nat.le_of_eq hz))
  rwa [unrV_over q1 q2 (by omega) (Nat.le_of_eq hz.symm)] at this
end Go.Proofs.YtigdjlhihhakmaaGreatDoor

namespace Go.Proofs.YtigdjlhihhakmaaGreatDoor
open Go.ChangeShapes Go.WideShapes Go.ChangeAt Go.RowKit
open Go.ChangeMaps (open_string shut_string)

theorem ownNone : ownKnob Tryz.prog.godebug = none := by kernel_rfl
/-- The variables that the rows list. -/
def lst : List (String × DataW Unit) := [("unicode/utf8.acceptRanges", Rows.laid_unicode_utf8_acceptRanges), ("unicode/utf8.first", Rows.laid_unicode_utf8_first)]

/-- The cells of a table of integers, or of structs of integers. -/
def litCells : DataW Unit → List Value
  | .lit (.int k n) => [.int k n]
  | _ => []
def rowCells : DataW Unit → List Value
  | .agg ps => ps.flatMap litCells
  | d => litCells d
def tabCells : DataW Unit → List Value
  | .agg ps => ps.flatMap rowCells
  | d => litCells d
def layAt (g : Nat) (cs : List Value) (h : Array Obj) : Array Obj := h.modify g fun
  | .cells _ t fr => .cells cs.toArray t fr
  | o => o
/-- A world that holds the tables. -/
noncomputable def laidWorld (os : Os) : World :=
  { World.holding Tryz.prog os ⟨#[], #[], []⟩ with heap := layAt 2 (tabCells Rows.laid_unicode_utf8_acceptRanges) (layAt 1 (tabCells Rows.laid_unicode_utf8_first) (World.holding Tryz.prog os ⟨#[], #[], []⟩).heap) }
set_option maxRecDepth 100000 in
theorem laid_met (os : Os) (args : Array Value) : laidMet Tryz.prog lst ((laidWorld os).forCall (fun _ _ => 0) ⟨#[], args, []⟩).memory :=
  laidMet_of_run' 8 (by kernel_rfl) (by kernel_rfl)

/-- No parameter of these types wants a stand-in. -/
theorem noStand : Tryz.prog.wantsStandIn 9 = false ∧ Tryz.prog.wantsStandIn 3 = false ∧ Tryz.prog.wantsStandIn 5 = false := by
  refine ⟨?_, ?_, ?_⟩ <;> kernel_rfl
end Go.Proofs.YtigdjlhihhakmaaGreatDoor
