/-
  NARROWER THAN 'FOR EVERY INPUT', by the rows' own cells (each row's printed sentence says how): RunsSplits: laid · RunsLevels: laid · RunsCharges: laid · RunsJoined: laid · RunsChanges: laid · RunsAdded: laid · RunsReversed: laid.
  DERIVED. THE GIVEN ROWS OF THIS SEAT. 7 by the template 'for every input the law returns true; each argument reads behind the call as it read before'; 0 by the template 'total and deterministic' (their statements: YtokpfbbhkmlclaaDoorTotals.lean).
  GIVEN WITH THE SEED: the statements are not yours to turn. If you find one false, say at which input.
  Laid BY PROGRAM, IN A SANDBOX (cutbox-rows.mjs): the forced cells as the released guide's own fill.sh prints them over the translation 96cbbb0483213639… (all of the seat's roots in one cut). By AI agents, Wed Nov 11 2026. No macro, syntax, notation, axiom, sorry.
-/
import Derived.Test.YtokpfbbhkmlclaaDoorChecked
import GoSem.PinnedTables
import GoSem.Claim
import GoSem.ClaimJoined
import GoSem.ClaimMapViews
import Derived.JoinedTies
import Derived.KernelRfl
namespace Go.Proofs.YtokpfbbhkmlclaaDoor
/- THE CELL 'sum', in the pinned program and in every row, IS THE sha256 OF THE DUMP (.gsa) THAT YtokpfbbhkmlclaaDoorProg.lean LOADS. Nothing in Lean hashes anything: it is a label: what it is worth is what the hold of that sum in a sandbox is worth. -/
noncomputable def Tryd.pinned : Pinned := { name := "ytokpfbbhkmlclaadoor", sum := "96cbbb048321363995cda1dc70f74d2363708f27333f19d03c0151d8ffa52021", checked := Tryd.checked }
namespace Rows
def none {H : Type} : Left H := { results := [], args := [] }

/- WHAT THE LISTED PACKAGE-LEVEL VARIABLES READ AS WHEN THE CALL BEGINS. Each datum BY PROGRAM (the guide's laid-datum.mjs) off the statement by which the dump's own 'gosem.cut.vars' lays the variable. In a bare row this is a premise. The card (YtokpfbbhkmlclaaDoorCards.lean) ties it to the program's text. -/
def laid_unicode_utf8_acceptRanges {H : Type} : DataW H := .agg [.agg [.lit (.int .u8 128), .lit (.int .u8 191)], .agg [.lit (.int .u8 160), .lit (.int .u8 191)], .agg [.lit (.int .u8 128), .lit (.int .u8 159)], .agg [.lit (.int .u8 144), .lit (.int .u8 191)], .agg [.lit (.int .u8 128), .lit (.int .u8 143)], .agg [.lit (.int .u8 0), .lit (.int .u8 0)], .agg [.lit (.int .u8 0), .lit (.int .u8 0)], .agg [.lit (.int .u8 0), .lit (.int .u8 0)], .agg [.lit (.int .u8 0), .lit (.int .u8 0)], .agg [.lit (.int .u8 0), .lit (.int .u8 0)], .agg [.lit (.int .u8 0), .lit (.int .u8 0)], .agg [.lit (.int .u8 0), .lit (.int .u8 0)], .agg [.lit (.int .u8 0), .lit (.int .u8 0)], .agg [.lit (.int .u8 0), .lit (.int .u8 0)], .agg [.lit (.int .u8 0), .lit (.int .u8 0)], .agg [.lit (.int .u8 0), .lit (.int .u8 0)]]
/-- One of Go's own tables, pinned by name: the form's constant. -/
def laid_unicode_utf8_first : DataW Unit := Go.Pinned.utf8First

/-- 'groovelaw08.RunsSplits': WHATEVER THE INPUT: true; the input reads as it did. -/
def runsSplitsSpec : ChangeSpec := { name := "runsSplits", fn := fun _ => fun
  | [d1, d2, d3] => { results := [.lit (.bool true)], args := [d1, d2, d3] }
  | _ => none }
def runsSplitsRow : OpenClaim := { program := "ytokpfbbhkmlclaadoor", sum := "96cbbb048321363995cda1dc70f74d2363708f27333f19d03c0151d8ffa52021", func := "groove/groovelaw08.RunsSplits", spec := "runsSplits", inPlace := ["internal/bytealg.IndexByteString", "internal/bytealg.IndexString", "internal/bytealg.MakeNoZero"], unfollowed := true, recurses := true, named := ["unicode/utf8.first", "unicode/utf8.acceptRanges", "internal/bytealg.MaxLen"], apart := false, laid := [("unicode/utf8.acceptRanges", laid_unicode_utf8_acceptRanges), ("unicode/utf8.first", laid_unicode_utf8_first)] }
def RunsSplitsSaid : Prop := runsSplitsRow.holds Tryd.pinned (OpenSpec.ofChange runsSplitsSpec)

/-- ITS FALSE NEIGHBOUR: 'it returns false'. Refute it at one input. -/
def runsSplitsWrong : ChangeSpec := { name := "runsSplits", fn := fun _ => fun
  | [d1, d2, d3] => { results := [.lit (.bool false)], args := [d1, d2, d3] }
  | _ => none }
def RunsSplitsWrongFalsely : Prop := runsSplitsRow.holds Tryd.pinned (OpenSpec.ofChange runsSplitsWrong)

/-- 'groovelaw08.RunsLevels': WHATEVER THE INPUT: true; the input reads as it did. -/
def runsLevelsSpec : ChangeSpec := { name := "runsLevels", fn := fun _ => fun
  | [d1, d2] => { results := [.lit (.bool true)], args := [d1, d2] }
  | _ => none }
def runsLevelsRow : OpenClaim := { program := "ytokpfbbhkmlclaadoor", sum := "96cbbb048321363995cda1dc70f74d2363708f27333f19d03c0151d8ffa52021", func := "groove/groovelaw08.RunsLevels", spec := "runsLevels", inPlace := ["internal/bytealg.IndexByteString", "internal/bytealg.IndexString"], unfollowed := true, recurses := true, named := ["unicode/utf8.first", "unicode/utf8.acceptRanges", "internal/bytealg.MaxLen"], apart := false, laid := [("unicode/utf8.acceptRanges", laid_unicode_utf8_acceptRanges), ("unicode/utf8.first", laid_unicode_utf8_first)] }
def RunsLevelsSaid : Prop := runsLevelsRow.holds Tryd.pinned (OpenSpec.ofChange runsLevelsSpec)

/-- ITS FALSE NEIGHBOUR: 'it returns false'. Refute it at one input. -/
def runsLevelsWrong : ChangeSpec := { name := "runsLevels", fn := fun _ => fun
  | [d1, d2] => { results := [.lit (.bool false)], args := [d1, d2] }
  | _ => none }
def RunsLevelsWrongFalsely : Prop := runsLevelsRow.holds Tryd.pinned (OpenSpec.ofChange runsLevelsWrong)

/-- 'groovelaw08.RunsCharges': WHATEVER THE INPUT: true; the input reads as it did. -/
def runsChargesSpec : ChangeSpec := { name := "runsCharges", fn := fun _ => fun
  | [d] => { results := [.lit (.bool true)], args := [d] }
  | _ => none }
def runsChargesRow : OpenClaim := { program := "ytokpfbbhkmlclaadoor", sum := "96cbbb048321363995cda1dc70f74d2363708f27333f19d03c0151d8ffa52021", func := "groove/groovelaw08.RunsCharges", spec := "runsCharges", inPlace := ["internal/bytealg.IndexByteString", "internal/bytealg.IndexString"], unfollowed := true, recurses := true, named := ["unicode/utf8.first", "unicode/utf8.acceptRanges", "internal/bytealg.MaxLen"], apart := false, laid := [("unicode/utf8.acceptRanges", laid_unicode_utf8_acceptRanges), ("unicode/utf8.first", laid_unicode_utf8_first)] }
def RunsChargesSaid : Prop := runsChargesRow.holds Tryd.pinned (OpenSpec.ofChange runsChargesSpec)

/-- ITS FALSE NEIGHBOUR: 'it returns false'. Refute it at one input. -/
def runsChargesWrong : ChangeSpec := { name := "runsCharges", fn := fun _ => fun
  | [d] => { results := [.lit (.bool false)], args := [d] }
  | _ => none }
def RunsChargesWrongFalsely : Prop := runsChargesRow.holds Tryd.pinned (OpenSpec.ofChange runsChargesWrong)

/-- 'groovelaw08.RunsJoined': WHATEVER THE INPUT: true; the input reads as it did. -/
def runsJoinedSpec : ChangeSpec := { name := "runsJoined", fn := fun _ => fun
  | [d1, d2, d3] => { results := [.lit (.bool true)], args := [d1, d2, d3] }
  | _ => none }
def runsJoinedRow : OpenClaim := { program := "ytokpfbbhkmlclaadoor", sum := "96cbbb048321363995cda1dc70f74d2363708f27333f19d03c0151d8ffa52021", func := "groove/groovelaw08.RunsJoined", spec := "runsJoined", inPlace := ["internal/bytealg.IndexByteString", "internal/bytealg.IndexString", "internal/bytealg.MakeNoZero"], unfollowed := true, recurses := true, named := ["unicode/utf8.first", "unicode/utf8.acceptRanges", "internal/bytealg.MaxLen"], apart := false, laid := [("unicode/utf8.acceptRanges", laid_unicode_utf8_acceptRanges), ("unicode/utf8.first", laid_unicode_utf8_first)] }
def RunsJoinedSaid : Prop := runsJoinedRow.holds Tryd.pinned (OpenSpec.ofChange runsJoinedSpec)

/-- ITS FALSE NEIGHBOUR: 'it returns false'. Refute it at one input. -/
def runsJoinedWrong : ChangeSpec := { name := "runsJoined", fn := fun _ => fun
  | [d1, d2, d3] => { results := [.lit (.bool false)], args := [d1, d2, d3] }
  | _ => none }
def RunsJoinedWrongFalsely : Prop := runsJoinedRow.holds Tryd.pinned (OpenSpec.ofChange runsJoinedWrong)

/-- 'groovelaw08.RunsChanges': WHATEVER THE INPUT: true; the input reads as it did. -/
def runsChangesSpec : ChangeSpec := { name := "runsChanges", fn := fun _ => fun
  | [d1, d2] => { results := [.lit (.bool true)], args := [d1, d2] }
  | _ => none }
def runsChangesRow : OpenClaim := { program := "ytokpfbbhkmlclaadoor", sum := "96cbbb048321363995cda1dc70f74d2363708f27333f19d03c0151d8ffa52021", func := "groove/groovelaw08.RunsChanges", spec := "runsChanges", inPlace := ["internal/bytealg.IndexByteString", "internal/bytealg.IndexString", "internal/bytealg.CountString"], unfollowed := true, recurses := true, named := ["unicode/utf8.first", "unicode/utf8.acceptRanges", "internal/bytealg.MaxLen"], apart := false, laid := [("unicode/utf8.acceptRanges", laid_unicode_utf8_acceptRanges), ("unicode/utf8.first", laid_unicode_utf8_first)] }
def RunsChangesSaid : Prop := runsChangesRow.holds Tryd.pinned (OpenSpec.ofChange runsChangesSpec)

/-- ITS FALSE NEIGHBOUR: 'it returns false'. Refute it at one input. -/
def runsChangesWrong : ChangeSpec := { name := "runsChanges", fn := fun _ => fun
  | [d1, d2] => { results := [.lit (.bool false)], args := [d1, d2] }
  | _ => none }
def RunsChangesWrongFalsely : Prop := runsChangesRow.holds Tryd.pinned (OpenSpec.ofChange runsChangesWrong)

/-- 'groovelaw08.RunsAdded': WHATEVER THE INPUT: true; the input reads as it did. -/
def runsAddedSpec : ChangeSpec := { name := "runsAdded", fn := fun _ => fun
  | [d1, d2] => { results := [.lit (.bool true)], args := [d1, d2] }
  | _ => none }
def runsAddedRow : OpenClaim := { program := "ytokpfbbhkmlclaadoor", sum := "96cbbb048321363995cda1dc70f74d2363708f27333f19d03c0151d8ffa52021", func := "groove/groovelaw08.RunsAdded", spec := "runsAdded", inPlace := ["internal/bytealg.IndexByteString", "internal/bytealg.IndexString"], unfollowed := true, recurses := true, named := ["unicode/utf8.first", "unicode/utf8.acceptRanges", "internal/bytealg.MaxLen"], apart := false, laid := [("unicode/utf8.acceptRanges", laid_unicode_utf8_acceptRanges), ("unicode/utf8.first", laid_unicode_utf8_first)] }
def RunsAddedSaid : Prop := runsAddedRow.holds Tryd.pinned (OpenSpec.ofChange runsAddedSpec)

/-- ITS FALSE NEIGHBOUR: 'it returns false'. Refute it at one input. -/
def runsAddedWrong : ChangeSpec := { name := "runsAdded", fn := fun _ => fun
  | [d1, d2] => { results := [.lit (.bool false)], args := [d1, d2] }
  | _ => none }
def RunsAddedWrongFalsely : Prop := runsAddedRow.holds Tryd.pinned (OpenSpec.ofChange runsAddedWrong)

/-- 'groovelaw08.RunsReversed': WHATEVER THE INPUT: true; the input reads as it did. -/
def runsReversedSpec : ChangeSpec := { name := "runsReversed", fn := fun _ => fun
  | [d] => { results := [.lit (.bool true)], args := [d] }
  | _ => none }
def runsReversedRow : OpenClaim := { program := "ytokpfbbhkmlclaadoor", sum := "96cbbb048321363995cda1dc70f74d2363708f27333f19d03c0151d8ffa52021", func := "groove/groovelaw08.RunsReversed", spec := "runsReversed", inPlace := ["internal/bytealg.IndexByteString", "internal/bytealg.IndexString"], unfollowed := true, recurses := true, named := ["unicode/utf8.first", "unicode/utf8.acceptRanges", "internal/bytealg.MaxLen"], apart := false, laid := [("unicode/utf8.acceptRanges", laid_unicode_utf8_acceptRanges), ("unicode/utf8.first", laid_unicode_utf8_first)] }
def RunsReversedSaid : Prop := runsReversedRow.holds Tryd.pinned (OpenSpec.ofChange runsReversedSpec)

/-- ITS FALSE NEIGHBOUR: 'it returns false'. Refute it at one input. -/
def runsReversedWrong : ChangeSpec := { name := "runsReversed", fn := fun _ => fun
  | [d] => { results := [.lit (.bool false)], args := [d] }
  | _ => none }
def RunsReversedWrongFalsely : Prop := runsReversedRow.holds Tryd.pinned (OpenSpec.ofChange runsReversedWrong)

/- THE SECOND FORM. 'bulk': how many values and letters a reading holds, each counted each time it is reached (what is shared counts as often as it is met; a slice's spare places count too). A statement '..UptoSaid' is the law's where the arguments, and the package variables that the reading takes, are together of bulk at most 1048576: NARROWER than '..Said'. Prove '..Said' where nothing that the law and all that it calls make is longer than what came in: it says more and counts as full. Else prove '..UptoSaid'. A law counts once. -/
mutual
def uptoBulk {H : Type} : DataW H → Nat
  | .lit (.string bytes) => bytes.length + 1
  | .lit _ => 1
  | .nil => 1
  | .ptr d => uptoBulk d + 1
  | .slice elems spare => uptoBulkAll elems + uptoBulkAll spare + 1
  | .agg parts => uptoBulkAll parts + 1
  | .iface _ d => uptoBulk d + 1
  | .map entries => uptoBulkEntries entries + 1
  | .held _ => 1
def uptoBulkAll {H : Type} : List (DataW H) → Nat
  | [] => 0
  | d :: r => uptoBulk d + uptoBulkAll r
def uptoBulkEntries {H : Type} : List (Lit × DataW H) → Nat
  | [] => 0
  | x :: r => uptoBulkEntry x + uptoBulkEntries r
def uptoBulkEntry {H : Type} : Lit × DataW H → Nat
  | (.string bytes, d) => bytes.length + uptoBulk d + 1
  | (_, d) => uptoBulk d + 1
 end
def uptoSmall : (H : Type) → List (DataW H) → Bool := fun _ ds => decide (uptoBulkAll ds ≤ 1048576)
def OpenSpec.upto (s : _root_.Go.ChangeSpec) : _root_.Go.OpenSpec := { _root_.Go.OpenSpec.ofChange s with cond := some uptoSmall }

/-- 'groovelaw08.RunsSplits', WHERE WHAT IT READS IS OF BULK AT MOST 1048576: true; the input reads as it did. -/
def runsSplitsUptoRow : OpenClaim := { program := "ytokpfbbhkmlclaadoor", sum := "96cbbb048321363995cda1dc70f74d2363708f27333f19d03c0151d8ffa52021", func := "groove/groovelaw08.RunsSplits", spec := "runsSplits", inPlace := ["internal/bytealg.IndexByteString", "internal/bytealg.IndexString", "internal/bytealg.MakeNoZero"], unfollowed := true, recurses := true, named := ["unicode/utf8.first", "unicode/utf8.acceptRanges", "internal/bytealg.MaxLen"], apart := false, laid := [("unicode/utf8.acceptRanges", laid_unicode_utf8_acceptRanges), ("unicode/utf8.first", laid_unicode_utf8_first)], narrowed := true }
def RunsSplitsUptoSaid : Prop := runsSplitsUptoRow.holds Tryd.pinned (OpenSpec.upto runsSplitsSpec)

/-- 'groovelaw08.RunsLevels', WHERE WHAT IT READS IS OF BULK AT MOST 1048576: true; the input reads as it did. -/
def runsLevelsUptoRow : OpenClaim := { program := "ytokpfbbhkmlclaadoor", sum := "96cbbb048321363995cda1dc70f74d2363708f27333f19d03c0151d8ffa52021", func := "groove/groovelaw08.RunsLevels", spec := "runsLevels", inPlace := ["internal/bytealg.IndexByteString", "internal/bytealg.IndexString"], unfollowed := true, recurses := true, named := ["unicode/utf8.first", "unicode/utf8.acceptRanges", "internal/bytealg.MaxLen"], apart := false, laid := [("unicode/utf8.acceptRanges", laid_unicode_utf8_acceptRanges), ("unicode/utf8.first", laid_unicode_utf8_first)], narrowed := true }
def RunsLevelsUptoSaid : Prop := runsLevelsUptoRow.holds Tryd.pinned (OpenSpec.upto runsLevelsSpec)

/-- 'groovelaw08.RunsCharges', WHERE WHAT IT READS IS OF BULK AT MOST 1048576: true; the input reads as it did. -/
def runsChargesUptoRow : OpenClaim := { program := "ytokpfbbhkmlclaadoor", sum := "96cbbb048321363995cda1dc70f74d2363708f27333f19d03c0151d8ffa52021", func := "groove/groovelaw08.RunsCharges", spec := "runsCharges", inPlace := ["internal/bytealg.IndexByteString", "internal/bytealg.IndexString"], unfollowed := true, recurses := true, named := ["unicode/utf8.first", "unicode/utf8.acceptRanges", "internal/bytealg.MaxLen"], apart := false, laid := [("unicode/utf8.acceptRanges", laid_unicode_utf8_acceptRanges), ("unicode/utf8.first", laid_unicode_utf8_first)], narrowed := true }
def RunsChargesUptoSaid : Prop := runsChargesUptoRow.holds Tryd.pinned (OpenSpec.upto runsChargesSpec)

/-- 'groovelaw08.RunsJoined', WHERE WHAT IT READS IS OF BULK AT MOST 1048576: true; the input reads as it did. -/
def runsJoinedUptoRow : OpenClaim := { program := "ytokpfbbhkmlclaadoor", sum := "96cbbb048321363995cda1dc70f74d2363708f27333f19d03c0151d8ffa52021", func := "groove/groovelaw08.RunsJoined", spec := "runsJoined", inPlace := ["internal/bytealg.IndexByteString", "internal/bytealg.IndexString", "internal/bytealg.MakeNoZero"], unfollowed := true, recurses := true, named := ["unicode/utf8.first", "unicode/utf8.acceptRanges", "internal/bytealg.MaxLen"], apart := false, laid := [("unicode/utf8.acceptRanges", laid_unicode_utf8_acceptRanges), ("unicode/utf8.first", laid_unicode_utf8_first)], narrowed := true }
def RunsJoinedUptoSaid : Prop := runsJoinedUptoRow.holds Tryd.pinned (OpenSpec.upto runsJoinedSpec)

/-- 'groovelaw08.RunsChanges', WHERE WHAT IT READS IS OF BULK AT MOST 1048576: true; the input reads as it did. -/
def runsChangesUptoRow : OpenClaim := { program := "ytokpfbbhkmlclaadoor", sum := "96cbbb048321363995cda1dc70f74d2363708f27333f19d03c0151d8ffa52021", func := "groove/groovelaw08.RunsChanges", spec := "runsChanges", inPlace := ["internal/bytealg.IndexByteString", "internal/bytealg.IndexString", "internal/bytealg.CountString"], unfollowed := true, recurses := true, named := ["unicode/utf8.first", "unicode/utf8.acceptRanges", "internal/bytealg.MaxLen"], apart := false, laid := [("unicode/utf8.acceptRanges", laid_unicode_utf8_acceptRanges), ("unicode/utf8.first", laid_unicode_utf8_first)], narrowed := true }
def RunsChangesUptoSaid : Prop := runsChangesUptoRow.holds Tryd.pinned (OpenSpec.upto runsChangesSpec)

/-- 'groovelaw08.RunsAdded', WHERE WHAT IT READS IS OF BULK AT MOST 1048576: true; the input reads as it did. -/
def runsAddedUptoRow : OpenClaim := { program := "ytokpfbbhkmlclaadoor", sum := "96cbbb048321363995cda1dc70f74d2363708f27333f19d03c0151d8ffa52021", func := "groove/groovelaw08.RunsAdded", spec := "runsAdded", inPlace := ["internal/bytealg.IndexByteString", "internal/bytealg.IndexString"], unfollowed := true, recurses := true, named := ["unicode/utf8.first", "unicode/utf8.acceptRanges", "internal/bytealg.MaxLen"], apart := false, laid := [("unicode/utf8.acceptRanges", laid_unicode_utf8_acceptRanges), ("unicode/utf8.first", laid_unicode_utf8_first)], narrowed := true }
def RunsAddedUptoSaid : Prop := runsAddedUptoRow.holds Tryd.pinned (OpenSpec.upto runsAddedSpec)

/-- 'groovelaw08.RunsReversed', WHERE WHAT IT READS IS OF BULK AT MOST 1048576: true; the input reads as it did. -/
def runsReversedUptoRow : OpenClaim := { program := "ytokpfbbhkmlclaadoor", sum := "96cbbb048321363995cda1dc70f74d2363708f27333f19d03c0151d8ffa52021", func := "groove/groovelaw08.RunsReversed", spec := "runsReversed", inPlace := ["internal/bytealg.IndexByteString", "internal/bytealg.IndexString"], unfollowed := true, recurses := true, named := ["unicode/utf8.first", "unicode/utf8.acceptRanges", "internal/bytealg.MaxLen"], apart := false, laid := [("unicode/utf8.acceptRanges", laid_unicode_utf8_acceptRanges), ("unicode/utf8.first", laid_unicode_utf8_first)], narrowed := true }
def RunsReversedUptoSaid : Prop := runsReversedUptoRow.holds Tryd.pinned (OpenSpec.upto runsReversedSpec)

end Rows
end Go.Proofs.YtokpfbbhkmlclaaDoor
