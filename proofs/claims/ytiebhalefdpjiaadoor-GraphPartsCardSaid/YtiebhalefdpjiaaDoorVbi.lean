/- Plain: what GraphParts asks of steps from single states and of determinism, and the parts of a valid graph on chosen states. No condition. -/
import Derived.Test.YtiebhalefdpjiaaDoorVbe
import Derived.Test.YtiebhalefdpjiaaDoorVbf
import Derived.Test.YtiebhalefdpjiaaDoorVbg
import Derived.Test.YtiebhalefdpjiaaDoorVba
import Derived.Test.YtiebhalefdpjiaaDoorVyk
namespace Go.Proofs.YtiebhalefdpjiaaDoor
open Go.RowKit
set_option linter.unusedVariables false

theorem stepF_one (es : List E3) (s lab : Int) : stepF es [s] lab = stepS es s lab := by
  funext t
  unfold stepF stepS
  congr 1
  funext e
  have : decide (e.1 ∈ [s]) = (e.1 == s) := by
    rw [Bool.eq_iff_iff]; simp
  rw [this]
/-- A step from a single state has at most one result. -/
def smL (n : Nat) (es : List E3) (s l : Nat) : Bool := decide ((mems n (stepF es [(s : Int)] (l : Int))).length < 2)
def uqA (n m : Nat) (es : List E3) (s : Nat) : Bool := (List.range s).all fun s => (List.range m).all fun l => smL n es s l
def uqB (n m : Nat) (es : List E3) (s l : Nat) : Bool := uqA n m es s && (List.range l).all fun l => smL n es s l
theorem uqA_zero (n m : Nat) (es : List E3) : uqA n m es 0 = true := rfl
theorem uqB_zero (n m : Nat) (es : List E3) (s : Nat) : uqB n m es s 0 = uqA n m es s := by unfold uqB; simp
theorem uqB_succ (n m : Nat) (es : List E3) (s l : Nat) : uqB n m es s (l + 1) = (uqB n m es s l && smL n es s l) := by
  unfold uqB
  rw [List.range_succ, List.all_append, ← Bool.and_assoc]
  simp
theorem uqB_end (n m : Nat) (es : List E3) (s : Nat) : uqB n m es s m = uqA n m es (s + 1) := by
  unfold uqB uqA
  rw [List.range_succ, List.all_append]
  simp
theorem uq_det {L : Int} {n m : Nat} {es : List E3} (h : VG L (n : Int) es) (hm : (m : Int) = L) : detE es = uqA n m es n := by
  rw [Bool.eq_iff_iff, det_steps h]
  unfold uqA
  simp only [List.all_eq_true, List.mem_range, smL, decide_eq_true_eq, stepF_one]
  constructor
  · intro h1 s hs l hl; exact h1 s l hs (by omega)
  · intro h1 s l hs hl; exact h1 s hs l (by omega)
theorem all_part {L : Int} {n : Nat} {es : List E3} (hvg : VG L (n : Int) es) : partE (mems n (bitB 65535)) es = es := by
  rw [mems_all (fun i _ => bitB_all i)]
  exact part_all (fun e he => hvg.ok e he)
end Go.Proofs.YtiebhalefdpjiaaDoor
