/-
  No cell of these rows narrows 'for every input' (looked for: loops, veiled, ifaces, maps, wideKeys, modest, calm, conditions, laid).
  DERIVED. THE GIVEN ROWS OF THIS SEAT. 5 by the template 'for every input the law returns true; each argument reads behind the call as it read before'; 0 by the template 'total and deterministic' (their statements: YtaliompoknnjgaaTotals.lean).
  GIVEN WITH THE SEED: the statements are not yours to turn. If you find one false, say at which input.
  Laid BY PROGRAM, IN A SANDBOX (cutbox-rows.mjs): the forced cells as the released guide's own fill.sh prints them over the translation 80522e257ddde2b5… (all of the seat's roots in one cut). By AI agents, Wed Nov 11 2026. No macro, syntax, notation, axiom, sorry.
-/
import Derived.Test.YtaliompoknnjgaaChecked
import GoSem.Claim
import GoSem.ClaimJoined
import GoSem.ClaimMapViews
import Derived.JoinedTies
import Derived.KernelRfl
namespace Go.Proofs.Ytaliompoknnjgaa
/- THE CELL 'sum', in the pinned program and in every row, IS THE sha256 OF THE DUMP (.gsa) THAT YtaliompoknnjgaaProg.lean LOADS. Nothing in Lean hashes anything: it is a label: what it is worth is what the hold of that sum in a sandbox is worth. -/
noncomputable def Try.pinned : Pinned := { name := "ytaliompoknnjgaa", sum := "80522e257ddde2b5b5c9909ca2bcb4ab7cef94b18e6e94a578364948b5cbde61", checked := Try.checked }
namespace Rows
def none {H : Type} : Left H := { results := [], args := [] }

/-- 'slotwrightlaw.StartPlays': WHATEVER THE INPUT: true; the input reads as it did. -/
def startPlaysSpec : ChangeSpec := { name := "startPlays", fn := fun _ => fun
  | [d1, d2, d3] => { results := [.lit (.bool true)], args := [d1, d2, d3] }
  | _ => none }
def startPlaysRow : OpenClaim := { program := "ytaliompoknnjgaa", sum := "80522e257ddde2b5b5c9909ca2bcb4ab7cef94b18e6e94a578364948b5cbde61", func := "slotwright/slotwrightlaw.StartPlays", spec := "startPlays", recurses := true, apart := false }
def StartPlaysSaid : Prop := startPlaysRow.holds Try.pinned (OpenSpec.ofChange startPlaysSpec)

/-- ITS FALSE NEIGHBOUR: 'it returns false'. Refute it at one input. -/
def startPlaysWrong : ChangeSpec := { name := "startPlays", fn := fun _ => fun
  | [d1, d2, d3] => { results := [.lit (.bool false)], args := [d1, d2, d3] }
  | _ => none }
def StartPlaysWrongFalsely : Prop := startPlaysRow.holds Try.pinned (OpenSpec.ofChange startPlaysWrong)

/-- 'slotwrightkeep.StartOne': WHATEVER THE INPUT: true; the input reads as it did. -/
def startOneSpec : ChangeSpec := { name := "startOne", fn := fun _ => fun
  | [d1, d2, d3] => { results := [.lit (.bool true)], args := [d1, d2, d3] }
  | _ => none }
def startOneRow : OpenClaim := { program := "ytaliompoknnjgaa", sum := "80522e257ddde2b5b5c9909ca2bcb4ab7cef94b18e6e94a578364948b5cbde61", func := "slotwright/slotwrightkeep.StartOne", spec := "startOne", recurses := true, apart := false }
def StartOneSaid : Prop := startOneRow.holds Try.pinned (OpenSpec.ofChange startOneSpec)

/-- ITS FALSE NEIGHBOUR: 'it returns false'. Refute it at one input. -/
def startOneWrong : ChangeSpec := { name := "startOne", fn := fun _ => fun
  | [d1, d2, d3] => { results := [.lit (.bool false)], args := [d1, d2, d3] }
  | _ => none }
def StartOneWrongFalsely : Prop := startOneRow.holds Try.pinned (OpenSpec.ofChange startOneWrong)

/-- 'slotwrightkeep.StartSoon': WHATEVER THE INPUT: true; the input reads as it did. -/
def startSoonSpec : ChangeSpec := { name := "startSoon", fn := fun _ => fun
  | [d1, d2, d3] => { results := [.lit (.bool true)], args := [d1, d2, d3] }
  | _ => none }
def startSoonRow : OpenClaim := { program := "ytaliompoknnjgaa", sum := "80522e257ddde2b5b5c9909ca2bcb4ab7cef94b18e6e94a578364948b5cbde61", func := "slotwright/slotwrightkeep.StartSoon", spec := "startSoon", recurses := true, apart := false }
def StartSoonSaid : Prop := startSoonRow.holds Try.pinned (OpenSpec.ofChange startSoonSpec)

/-- ITS FALSE NEIGHBOUR: 'it returns false'. Refute it at one input. -/
def startSoonWrong : ChangeSpec := { name := "startSoon", fn := fun _ => fun
  | [d1, d2, d3] => { results := [.lit (.bool false)], args := [d1, d2, d3] }
  | _ => none }
def StartSoonWrongFalsely : Prop := startSoonRow.holds Try.pinned (OpenSpec.ofChange startSoonWrong)

/-- 'slotwrightkeep.StartFew': WHATEVER THE INPUT: true; the input reads as it did. -/
def startFewSpec : ChangeSpec := { name := "startFew", fn := fun _ => fun
  | [d1, d2, d3] => { results := [.lit (.bool true)], args := [d1, d2, d3] }
  | _ => none }
def startFewRow : OpenClaim := { program := "ytaliompoknnjgaa", sum := "80522e257ddde2b5b5c9909ca2bcb4ab7cef94b18e6e94a578364948b5cbde61", func := "slotwright/slotwrightkeep.StartFew", spec := "startFew", recurses := true, apart := false }
def StartFewSaid : Prop := startFewRow.holds Try.pinned (OpenSpec.ofChange startFewSpec)

/-- ITS FALSE NEIGHBOUR: 'it returns false'. Refute it at one input. -/
def startFewWrong : ChangeSpec := { name := "startFew", fn := fun _ => fun
  | [d1, d2, d3] => { results := [.lit (.bool false)], args := [d1, d2, d3] }
  | _ => none }
def StartFewWrongFalsely : Prop := startFewRow.holds Try.pinned (OpenSpec.ofChange startFewWrong)

/-- 'slotwrightkeep.StartShift': WHATEVER THE INPUT: true; the input reads as it did. -/
def startShiftSpec : ChangeSpec := { name := "startShift", fn := fun _ => fun
  | [d1, d2, d3, d4] => { results := [.lit (.bool true)], args := [d1, d2, d3, d4] }
  | _ => none }
def startShiftRow : OpenClaim := { program := "ytaliompoknnjgaa", sum := "80522e257ddde2b5b5c9909ca2bcb4ab7cef94b18e6e94a578364948b5cbde61", func := "slotwright/slotwrightkeep.StartShift", spec := "startShift", recurses := true, apart := false }
def StartShiftSaid : Prop := startShiftRow.holds Try.pinned (OpenSpec.ofChange startShiftSpec)

/-- ITS FALSE NEIGHBOUR: 'it returns false'. Refute it at one input. -/
def startShiftWrong : ChangeSpec := { name := "startShift", fn := fun _ => fun
  | [d1, d2, d3, d4] => { results := [.lit (.bool false)], args := [d1, d2, d3, d4] }
  | _ => none }
def StartShiftWrongFalsely : Prop := startShiftRow.holds Try.pinned (OpenSpec.ofChange startShiftWrong)

/- THE SECOND FORM. 'bulk': how many values and letters a reading holds, each counted each time it is reached (what is shared counts as often as it is met; a slice's spare places count too). A statement '..UptoSaid' is the law's where the arguments, and the package variables that the reading takes, are together of bulk at most 1048576: NARROWER than '..Said'. Prove '..Said' where nothing that the law and all that it calls make is longer than what came in: it says more and counts as full. Else prove '..UptoSaid'. A law counts once. -/
mutual
def uptoBulk {H : Type} : DataW H → Nat
  | .lit (.string bytes) => bytes.length + 1
  | .lit _ => 1
  | .nil => 1
  | .ptr d => uptoBulk d + 1
  | .slice elems spare => uptoBulkAll elems + uptoBulkAll spare + 1
  | .agg parts => uptoBulkAll parts + 1
  | .iface _ d => uptoBulk d + 1
  | .map entries => uptoBulkEntries entries + 1
  | .held _ => 1
def uptoBulkAll {H : Type} : List (DataW H) → Nat
  | [] => 0
  | d :: r => uptoBulk d + uptoBulkAll r
def uptoBulkEntries {H : Type} : List (Lit × DataW H) → Nat
  | [] => 0
  | x :: r => uptoBulkEntry x + uptoBulkEntries r
def uptoBulkEntry {H : Type} : Lit × DataW H → Nat
  | (.string bytes, d) => bytes.length + uptoBulk d + 1
  | (_, d) => uptoBulk d + 1
 end
def uptoSmall : (H : Type) → List (DataW H) → Bool := fun _ ds => decide (uptoBulkAll ds ≤ 1048576)
def OpenSpec.upto (s : _root_.Go.ChangeSpec) : _root_.Go.OpenSpec := { _root_.Go.OpenSpec.ofChange s with cond := some uptoSmall }

/-- 'slotwrightlaw.StartPlays', WHERE WHAT IT READS IS OF BULK AT MOST 1048576: true; the input reads as it did. -/
def startPlaysUptoRow : OpenClaim := { program := "ytaliompoknnjgaa", sum := "80522e257ddde2b5b5c9909ca2bcb4ab7cef94b18e6e94a578364948b5cbde61", func := "slotwright/slotwrightlaw.StartPlays", spec := "startPlays", recurses := true, apart := false, narrowed := true }
def StartPlaysUptoSaid : Prop := startPlaysUptoRow.holds Try.pinned (OpenSpec.upto startPlaysSpec)

/-- 'slotwrightkeep.StartOne', WHERE WHAT IT READS IS OF BULK AT MOST 1048576: true; the input reads as it did. -/
def startOneUptoRow : OpenClaim := { program := "ytaliompoknnjgaa", sum := "80522e257ddde2b5b5c9909ca2bcb4ab7cef94b18e6e94a578364948b5cbde61", func := "slotwright/slotwrightkeep.StartOne", spec := "startOne", recurses := true, apart := false, narrowed := true }
def StartOneUptoSaid : Prop := startOneUptoRow.holds Try.pinned (OpenSpec.upto startOneSpec)

/-- 'slotwrightkeep.StartSoon', WHERE WHAT IT READS IS OF BULK AT MOST 1048576: true; the input reads as it did. -/
def startSoonUptoRow : OpenClaim := { program := "ytaliompoknnjgaa", sum := "80522e257ddde2b5b5c9909ca2bcb4ab7cef94b18e6e94a578364948b5cbde61", func := "slotwright/slotwrightkeep.StartSoon", spec := "startSoon", recurses := true, apart := false, narrowed := true }
def StartSoonUptoSaid : Prop := startSoonUptoRow.holds Try.pinned (OpenSpec.upto startSoonSpec)

/-- 'slotwrightkeep.StartFew', WHERE WHAT IT READS IS OF BULK AT MOST 1048576: true; the input reads as it did. -/
def startFewUptoRow : OpenClaim := { program := "ytaliompoknnjgaa", sum := "80522e257ddde2b5b5c9909ca2bcb4ab7cef94b18e6e94a578364948b5cbde61", func := "slotwright/slotwrightkeep.StartFew", spec := "startFew", recurses := true, apart := false, narrowed := true }
def StartFewUptoSaid : Prop := startFewUptoRow.holds Try.pinned (OpenSpec.upto startFewSpec)

/-- 'slotwrightkeep.StartShift', WHERE WHAT IT READS IS OF BULK AT MOST 1048576: true; the input reads as it did. -/
def startShiftUptoRow : OpenClaim := { program := "ytaliompoknnjgaa", sum := "80522e257ddde2b5b5c9909ca2bcb4ab7cef94b18e6e94a578364948b5cbde61", func := "slotwright/slotwrightkeep.StartShift", spec := "startShift", recurses := true, apart := false, narrowed := true }
def StartShiftUptoSaid : Prop := startShiftUptoRow.holds Try.pinned (OpenSpec.upto startShiftSpec)

end Rows
end Go.Proofs.Ytaliompoknnjgaa
