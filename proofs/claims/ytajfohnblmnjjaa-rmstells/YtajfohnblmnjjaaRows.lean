/-
  No cell of these rows narrows 'for every input' (looked for: loops, veiled, ifaces, maps, wideKeys, modest, calm, conditions, laid).
  DERIVED. THE GIVEN ROWS OF THIS SEAT. 6 by the template 'for every input the law returns true; each argument reads behind the call as it read before'; 0 by the template 'total and deterministic' (their statements: YtajfohnblmnjjaaTotals.lean).
  GIVEN WITH THE SEED: the statements are not yours to turn. If you find one false, say at which input.
  Laid BY PROGRAM, IN A SANDBOX (cutbox-rows.mjs): the forced cells as the released guide's own fill.sh prints them over the translation 941f555320643180… (all of the seat's roots in one cut). By AI agents, Wed Nov 11 2026. No macro, syntax, notation, axiom, sorry.
-/
import Derived.Test.YtajfohnblmnjjaaChecked
import GoSem.Claim
import GoSem.ClaimJoined
import GoSem.ClaimMapViews
import Derived.JoinedTies
import Derived.KernelRfl
namespace Go.Proofs.Ytajfohnblmnjjaa
/- THE CELL 'sum', in the pinned program and in every row, IS THE sha256 OF THE DUMP (.gsa) THAT YtajfohnblmnjjaaProg.lean LOADS. Nothing in Lean hashes anything: it is a label: what it is worth is what the hold of that sum in a sandbox is worth. -/
noncomputable def Try.pinned : Pinned := { name := "ytajfohnblmnjjaa", sum := "941f5553206431802507a0df0ae253d42ba59348a24031edfe7c943f78853b9b", checked := Try.checked }
namespace Rows
def none {H : Type} : Left H := { results := [], args := [] }

/-- 'slotwrightlaw.RmsTells': WHATEVER THE INPUT: true; the input reads as it did. -/
def rmsTellsSpec : ChangeSpec := { name := "rmsTells", fn := fun _ => fun
  | [d] => { results := [.lit (.bool true)], args := [d] }
  | _ => none }
def rmsTellsRow : OpenClaim := { program := "ytajfohnblmnjjaa", sum := "941f5553206431802507a0df0ae253d42ba59348a24031edfe7c943f78853b9b", func := "slotwright/slotwrightlaw.RmsTells", spec := "rmsTells", inPlace := ["math/bits.Add64"], unfollowed := true, recurses := true, named := ["math/bits.divideError", "math/bits.overflowError"], apart := false }
def RmsTellsSaid : Prop := rmsTellsRow.holds Try.pinned (OpenSpec.ofChange rmsTellsSpec)

/-- ITS FALSE NEIGHBOUR: 'it returns false'. Refute it at one input. -/
def rmsTellsWrong : ChangeSpec := { name := "rmsTells", fn := fun _ => fun
  | [d] => { results := [.lit (.bool false)], args := [d] }
  | _ => none }
def RmsTellsWrongFalsely : Prop := rmsTellsRow.holds Try.pinned (OpenSpec.ofChange rmsTellsWrong)

/-- 'slotwrightkeep.RmsSure': WHATEVER THE INPUT: true; the input reads as it did. -/
def rmsSureSpec : ChangeSpec := { name := "rmsSure", fn := fun _ => fun
  | [d] => { results := [.lit (.bool true)], args := [d] }
  | _ => none }
def rmsSureRow : OpenClaim := { program := "ytajfohnblmnjjaa", sum := "941f5553206431802507a0df0ae253d42ba59348a24031edfe7c943f78853b9b", func := "slotwright/slotwrightkeep.RmsSure", spec := "rmsSure", inPlace := ["math/bits.Add64"], unfollowed := true, recurses := true, named := ["math/bits.divideError", "math/bits.overflowError"], apart := false }
def RmsSureSaid : Prop := rmsSureRow.holds Try.pinned (OpenSpec.ofChange rmsSureSpec)

/-- ITS FALSE NEIGHBOUR: 'it returns false'. Refute it at one input. -/
def rmsSureWrong : ChangeSpec := { name := "rmsSure", fn := fun _ => fun
  | [d] => { results := [.lit (.bool false)], args := [d] }
  | _ => none }
def RmsSureWrongFalsely : Prop := rmsSureRow.holds Try.pinned (OpenSpec.ofChange rmsSureWrong)

/-- 'slotwrightkeep.RmsFull': WHATEVER THE INPUT: true; the input reads as it did. -/
def rmsFullSpec : ChangeSpec := { name := "rmsFull", fn := fun _ => fun
  | [d] => { results := [.lit (.bool true)], args := [d] }
  | _ => none }
def rmsFullRow : OpenClaim := { program := "ytajfohnblmnjjaa", sum := "941f5553206431802507a0df0ae253d42ba59348a24031edfe7c943f78853b9b", func := "slotwright/slotwrightkeep.RmsFull", spec := "rmsFull", inPlace := ["math/bits.Add64"], unfollowed := true, recurses := true, named := ["math/bits.divideError", "math/bits.overflowError"], apart := false }
def RmsFullSaid : Prop := rmsFullRow.holds Try.pinned (OpenSpec.ofChange rmsFullSpec)

/-- ITS FALSE NEIGHBOUR: 'it returns false'. Refute it at one input. -/
def rmsFullWrong : ChangeSpec := { name := "rmsFull", fn := fun _ => fun
  | [d] => { results := [.lit (.bool false)], args := [d] }
  | _ => none }
def RmsFullWrongFalsely : Prop := rmsFullRow.holds Try.pinned (OpenSpec.ofChange rmsFullWrong)

/-- 'slotwrightkeep.RmsBest': WHATEVER THE INPUT: true; the input reads as it did. -/
def rmsBestSpec : ChangeSpec := { name := "rmsBest", fn := fun _ => fun
  | [d] => { results := [.lit (.bool true)], args := [d] }
  | _ => none }
def rmsBestRow : OpenClaim := { program := "ytajfohnblmnjjaa", sum := "941f5553206431802507a0df0ae253d42ba59348a24031edfe7c943f78853b9b", func := "slotwright/slotwrightkeep.RmsBest", spec := "rmsBest", inPlace := ["math/bits.Add64"], unfollowed := true, recurses := true, named := ["math/bits.divideError", "math/bits.overflowError"], apart := false }
def RmsBestSaid : Prop := rmsBestRow.holds Try.pinned (OpenSpec.ofChange rmsBestSpec)

/-- ITS FALSE NEIGHBOUR: 'it returns false'. Refute it at one input. -/
def rmsBestWrong : ChangeSpec := { name := "rmsBest", fn := fun _ => fun
  | [d] => { results := [.lit (.bool false)], args := [d] }
  | _ => none }
def RmsBestWrongFalsely : Prop := rmsBestRow.holds Try.pinned (OpenSpec.ofChange rmsBestWrong)

/-- 'slotwrightkeep.RmsHalf': WHATEVER THE INPUT: true; the input reads as it did. -/
def rmsHalfSpec : ChangeSpec := { name := "rmsHalf", fn := fun _ => fun
  | [d] => { results := [.lit (.bool true)], args := [d] }
  | _ => none }
def rmsHalfRow : OpenClaim := { program := "ytajfohnblmnjjaa", sum := "941f5553206431802507a0df0ae253d42ba59348a24031edfe7c943f78853b9b", func := "slotwright/slotwrightkeep.RmsHalf", spec := "rmsHalf", inPlace := ["math/bits.Add64"], unfollowed := true, recurses := true, named := ["math/bits.divideError", "math/bits.overflowError"], apart := false }
def RmsHalfSaid : Prop := rmsHalfRow.holds Try.pinned (OpenSpec.ofChange rmsHalfSpec)

/-- ITS FALSE NEIGHBOUR: 'it returns false'. Refute it at one input. -/
def rmsHalfWrong : ChangeSpec := { name := "rmsHalf", fn := fun _ => fun
  | [d] => { results := [.lit (.bool false)], args := [d] }
  | _ => none }
def RmsHalfWrongFalsely : Prop := rmsHalfRow.holds Try.pinned (OpenSpec.ofChange rmsHalfWrong)

/-- 'slotwrightkeep.RmsLess': WHATEVER THE INPUT: true; the input reads as it did. -/
def rmsLessSpec : ChangeSpec := { name := "rmsLess", fn := fun _ => fun
  | [d1, d2, d3] => { results := [.lit (.bool true)], args := [d1, d2, d3] }
  | _ => none }
def rmsLessRow : OpenClaim := { program := "ytajfohnblmnjjaa", sum := "941f5553206431802507a0df0ae253d42ba59348a24031edfe7c943f78853b9b", func := "slotwright/slotwrightkeep.RmsLess", spec := "rmsLess", inPlace := ["math/bits.Add64"], unfollowed := true, recurses := true, named := ["math/bits.divideError", "math/bits.overflowError"], apart := false }
def RmsLessSaid : Prop := rmsLessRow.holds Try.pinned (OpenSpec.ofChange rmsLessSpec)

/-- ITS FALSE NEIGHBOUR: 'it returns false'. Refute it at one input. -/
def rmsLessWrong : ChangeSpec := { name := "rmsLess", fn := fun _ => fun
  | [d1, d2, d3] => { results := [.lit (.bool false)], args := [d1, d2, d3] }
  | _ => none }
def RmsLessWrongFalsely : Prop := rmsLessRow.holds Try.pinned (OpenSpec.ofChange rmsLessWrong)

/- THE SECOND FORM. 'bulk': how many values and letters a reading holds, each counted each time it is reached (what is shared counts as often as it is met; a slice's spare places count too). A statement '..UptoSaid' is the law's where the arguments, and the package variables that the reading takes, are together of bulk at most 1048576: NARROWER than '..Said'. Prove '..Said' where nothing that the law and all that it calls make is longer than what came in: it says more and counts as full. Else prove '..UptoSaid'. A law counts once. -/
mutual
def uptoBulk {H : Type} : DataW H → Nat
  | .lit (.string bytes) => bytes.length + 1
  | .lit _ => 1
  | .nil => 1
  | .ptr d => uptoBulk d + 1
  | .slice elems spare => uptoBulkAll elems + uptoBulkAll spare + 1
  | .agg parts => uptoBulkAll parts + 1
  | .iface _ d => uptoBulk d + 1
  | .map entries => uptoBulkEntries entries + 1
  | .held _ => 1
def uptoBulkAll {H : Type} : List (DataW H) → Nat
  | [] => 0
  | d :: r => uptoBulk d + uptoBulkAll r
def uptoBulkEntries {H : Type} : List (Lit × DataW H) → Nat
  | [] => 0
  | x :: r => uptoBulkEntry x + uptoBulkEntries r
def uptoBulkEntry {H : Type} : Lit × DataW H → Nat
  | (.string bytes, d) => bytes.length + uptoBulk d + 1
  | (_, d) => uptoBulk d + 1
 end
def uptoSmall : (H : Type) → List (DataW H) → Bool := fun _ ds => decide (uptoBulkAll ds ≤ 1048576)
def OpenSpec.upto (s : _root_.Go.ChangeSpec) : _root_.Go.OpenSpec := { _root_.Go.OpenSpec.ofChange s with cond := some uptoSmall }

/-- 'slotwrightlaw.RmsTells', WHERE WHAT IT READS IS OF BULK AT MOST 1048576: true; the input reads as it did. -/
def rmsTellsUptoRow : OpenClaim := { program := "ytajfohnblmnjjaa", sum := "941f5553206431802507a0df0ae253d42ba59348a24031edfe7c943f78853b9b", func := "slotwright/slotwrightlaw.RmsTells", spec := "rmsTells", inPlace := ["math/bits.Add64"], unfollowed := true, recurses := true, named := ["math/bits.divideError", "math/bits.overflowError"], apart := false, narrowed := true }
def RmsTellsUptoSaid : Prop := rmsTellsUptoRow.holds Try.pinned (OpenSpec.upto rmsTellsSpec)

/-- 'slotwrightkeep.RmsSure', WHERE WHAT IT READS IS OF BULK AT MOST 1048576: true; the input reads as it did. -/
def rmsSureUptoRow : OpenClaim := { program := "ytajfohnblmnjjaa", sum := "941f5553206431802507a0df0ae253d42ba59348a24031edfe7c943f78853b9b", func := "slotwright/slotwrightkeep.RmsSure", spec := "rmsSure", inPlace := ["math/bits.Add64"], unfollowed := true, recurses := true, named := ["math/bits.divideError", "math/bits.overflowError"], apart := false, narrowed := true }
def RmsSureUptoSaid : Prop := rmsSureUptoRow.holds Try.pinned (OpenSpec.upto rmsSureSpec)

/-- 'slotwrightkeep.RmsFull', WHERE WHAT IT READS IS OF BULK AT MOST 1048576: true; the input reads as it did. -/
def rmsFullUptoRow : OpenClaim := { program := "ytajfohnblmnjjaa", sum := "941f5553206431802507a0df0ae253d42ba59348a24031edfe7c943f78853b9b", func := "slotwright/slotwrightkeep.RmsFull", spec := "rmsFull", inPlace := ["math/bits.Add64"], unfollowed := true, recurses := true, named := ["math/bits.divideError", "math/bits.overflowError"], apart := false, narrowed := true }
def RmsFullUptoSaid : Prop := rmsFullUptoRow.holds Try.pinned (OpenSpec.upto rmsFullSpec)

/-- 'slotwrightkeep.RmsBest', WHERE WHAT IT READS IS OF BULK AT MOST 1048576: true; the input reads as it did. -/
def rmsBestUptoRow : OpenClaim := { program := "ytajfohnblmnjjaa", sum := "941f5553206431802507a0df0ae253d42ba59348a24031edfe7c943f78853b9b", func := "slotwright/slotwrightkeep.RmsBest", spec := "rmsBest", inPlace := ["math/bits.Add64"], unfollowed := true, recurses := true, named := ["math/bits.divideError", "math/bits.overflowError"], apart := false, narrowed := true }
def RmsBestUptoSaid : Prop := rmsBestUptoRow.holds Try.pinned (OpenSpec.upto rmsBestSpec)

/-- 'slotwrightkeep.RmsHalf', WHERE WHAT IT READS IS OF BULK AT MOST 1048576: true; the input reads as it did. -/
def rmsHalfUptoRow : OpenClaim := { program := "ytajfohnblmnjjaa", sum := "941f5553206431802507a0df0ae253d42ba59348a24031edfe7c943f78853b9b", func := "slotwright/slotwrightkeep.RmsHalf", spec := "rmsHalf", inPlace := ["math/bits.Add64"], unfollowed := true, recurses := true, named := ["math/bits.divideError", "math/bits.overflowError"], apart := false, narrowed := true }
def RmsHalfUptoSaid : Prop := rmsHalfUptoRow.holds Try.pinned (OpenSpec.upto rmsHalfSpec)

/-- 'slotwrightkeep.RmsLess', WHERE WHAT IT READS IS OF BULK AT MOST 1048576: true; the input reads as it did. -/
def rmsLessUptoRow : OpenClaim := { program := "ytajfohnblmnjjaa", sum := "941f5553206431802507a0df0ae253d42ba59348a24031edfe7c943f78853b9b", func := "slotwright/slotwrightkeep.RmsLess", spec := "rmsLess", inPlace := ["math/bits.Add64"], unfollowed := true, recurses := true, named := ["math/bits.divideError", "math/bits.overflowError"], apart := false, narrowed := true }
def RmsLessUptoSaid : Prop := rmsLessUptoRow.holds Try.pinned (OpenSpec.upto rmsLessSpec)

end Rows
end Go.Proofs.Ytajfohnblmnjjaa
