/-
  No cell of these rows narrows 'for every input' (looked for: loops, veiled, ifaces, maps, wideKeys, modest, calm, conditions, laid).
  DERIVED. THE GIVEN ROWS OF THIS SEAT. 5 by the template 'for every input the law returns true; each argument reads behind the call as it read before'; 0 by the template 'total and deterministic' (their statements: YtddegfgkkepliaaTotals.lean).
  GIVEN WITH THE SEED: the statements are not yours to turn. If you find one false, say at which input.
  Laid BY PROGRAM, IN A SANDBOX (cutbox-rows.mjs): the forced cells as the released guide's own fill.sh prints them over the translation 25e6b4f180795403… (all of the seat's roots in one cut). By AI agents, Wed Nov 11 2026. No macro, syntax, notation, axiom, sorry.
-/
import Derived.Test.YtddegfgkkepliaaChecked
import GoSem.Claim
import GoSem.ClaimJoined
import GoSem.ClaimMapViews
import Derived.JoinedTies
import Derived.KernelRfl
namespace Go.Proofs.Ytddegfgkkepliaa
/- THE CELL 'sum', in the pinned program and in every row, IS THE sha256 OF THE DUMP (.gsa) THAT YtddegfgkkepliaaProg.lean LOADS. Nothing in Lean hashes anything: it is a label: what it is worth is what the hold of that sum in a sandbox is worth. -/
noncomputable def Try.pinned : Pinned := { name := "ytddegfgkkepliaa", sum := "25e6b4f180795403d67c59e3ba147ecbac09699783f31ca8445b3797d6bc1747", checked := Try.checked }
namespace Rows
def none {H : Type} : Left H := { results := [], args := [] }

/-- 'slotwrightlaw.FtaTells': WHATEVER THE INPUT: true; the input reads as it did. -/
def ftaTellsSpec : ChangeSpec := { name := "ftaTells", fn := fun _ => fun
  | [d1, d2] => { results := [.lit (.bool true)], args := [d1, d2] }
  | _ => none }
def ftaTellsRow : OpenClaim := { program := "ytddegfgkkepliaa", sum := "25e6b4f180795403d67c59e3ba147ecbac09699783f31ca8445b3797d6bc1747", func := "slotwright/slotwrightlaw.FtaTells", spec := "ftaTells", recurses := true, apart := false }
def FtaTellsSaid : Prop := ftaTellsRow.holds Try.pinned (OpenSpec.ofChange ftaTellsSpec)

/-- ITS FALSE NEIGHBOUR: 'it returns false'. Refute it at one input. -/
def ftaTellsWrong : ChangeSpec := { name := "ftaTells", fn := fun _ => fun
  | [d1, d2] => { results := [.lit (.bool false)], args := [d1, d2] }
  | _ => none }
def FtaTellsWrongFalsely : Prop := ftaTellsRow.holds Try.pinned (OpenSpec.ofChange ftaTellsWrong)

/-- 'slotwrightkeep.FtaSafe': WHATEVER THE INPUT: true; the input reads as it did. -/
def ftaSafeSpec : ChangeSpec := { name := "ftaSafe", fn := fun _ => fun
  | [d1, d2] => { results := [.lit (.bool true)], args := [d1, d2] }
  | _ => none }
def ftaSafeRow : OpenClaim := { program := "ytddegfgkkepliaa", sum := "25e6b4f180795403d67c59e3ba147ecbac09699783f31ca8445b3797d6bc1747", func := "slotwright/slotwrightkeep.FtaSafe", spec := "ftaSafe", recurses := true, apart := false }
def FtaSafeSaid : Prop := ftaSafeRow.holds Try.pinned (OpenSpec.ofChange ftaSafeSpec)

/-- ITS FALSE NEIGHBOUR: 'it returns false'. Refute it at one input. -/
def ftaSafeWrong : ChangeSpec := { name := "ftaSafe", fn := fun _ => fun
  | [d1, d2] => { results := [.lit (.bool false)], args := [d1, d2] }
  | _ => none }
def FtaSafeWrongFalsely : Prop := ftaSafeRow.holds Try.pinned (OpenSpec.ofChange ftaSafeWrong)

/-- 'slotwrightkeep.FtaHalf': WHATEVER THE INPUT: true; the input reads as it did. -/
def ftaHalfSpec : ChangeSpec := { name := "ftaHalf", fn := fun _ => fun
  | [d1, d2, d3] => { results := [.lit (.bool true)], args := [d1, d2, d3] }
  | _ => none }
def ftaHalfRow : OpenClaim := { program := "ytddegfgkkepliaa", sum := "25e6b4f180795403d67c59e3ba147ecbac09699783f31ca8445b3797d6bc1747", func := "slotwright/slotwrightkeep.FtaHalf", spec := "ftaHalf", recurses := true, apart := false }
def FtaHalfSaid : Prop := ftaHalfRow.holds Try.pinned (OpenSpec.ofChange ftaHalfSpec)

/-- ITS FALSE NEIGHBOUR: 'it returns false'. Refute it at one input. -/
def ftaHalfWrong : ChangeSpec := { name := "ftaHalf", fn := fun _ => fun
  | [d1, d2, d3] => { results := [.lit (.bool false)], args := [d1, d2, d3] }
  | _ => none }
def FtaHalfWrongFalsely : Prop := ftaHalfRow.holds Try.pinned (OpenSpec.ofChange ftaHalfWrong)

/-- 'slotwrightkeep.FtaShift': WHATEVER THE INPUT: true; the input reads as it did. -/
def ftaShiftSpec : ChangeSpec := { name := "ftaShift", fn := fun _ => fun
  | [d1, d2, d3] => { results := [.lit (.bool true)], args := [d1, d2, d3] }
  | _ => none }
def ftaShiftRow : OpenClaim := { program := "ytddegfgkkepliaa", sum := "25e6b4f180795403d67c59e3ba147ecbac09699783f31ca8445b3797d6bc1747", func := "slotwright/slotwrightkeep.FtaShift", spec := "ftaShift", recurses := true, apart := false }
def FtaShiftSaid : Prop := ftaShiftRow.holds Try.pinned (OpenSpec.ofChange ftaShiftSpec)

/-- ITS FALSE NEIGHBOUR: 'it returns false'. Refute it at one input. -/
def ftaShiftWrong : ChangeSpec := { name := "ftaShift", fn := fun _ => fun
  | [d1, d2, d3] => { results := [.lit (.bool false)], args := [d1, d2, d3] }
  | _ => none }
def FtaShiftWrongFalsely : Prop := ftaShiftRow.holds Try.pinned (OpenSpec.ofChange ftaShiftWrong)

/-- 'slotwrightkeep.FtaRises': WHATEVER THE INPUT: true; the input reads as it did. -/
def ftaRisesSpec : ChangeSpec := { name := "ftaRises", fn := fun _ => fun
  | [d1, d2, d3, d4] => { results := [.lit (.bool true)], args := [d1, d2, d3, d4] }
  | _ => none }
def ftaRisesRow : OpenClaim := { program := "ytddegfgkkepliaa", sum := "25e6b4f180795403d67c59e3ba147ecbac09699783f31ca8445b3797d6bc1747", func := "slotwright/slotwrightkeep.FtaRises", spec := "ftaRises", recurses := true, apart := false }
def FtaRisesSaid : Prop := ftaRisesRow.holds Try.pinned (OpenSpec.ofChange ftaRisesSpec)

/-- ITS FALSE NEIGHBOUR: 'it returns false'. Refute it at one input. -/
def ftaRisesWrong : ChangeSpec := { name := "ftaRises", fn := fun _ => fun
  | [d1, d2, d3, d4] => { results := [.lit (.bool false)], args := [d1, d2, d3, d4] }
  | _ => none }
def FtaRisesWrongFalsely : Prop := ftaRisesRow.holds Try.pinned (OpenSpec.ofChange ftaRisesWrong)

/- THE SECOND FORM. 'bulk': how many values and letters a reading holds, each counted each time it is reached (what is shared counts as often as it is met; a slice's spare places count too). A statement '..UptoSaid' is the law's where the arguments, and the package variables that the reading takes, are together of bulk at most 1048576: NARROWER than '..Said'. Prove '..Said' where nothing that the law and all that it calls make is longer than what came in: it says more and counts as full. Else prove '..UptoSaid'. A law counts once. -/
mutual
def uptoBulk {H : Type} : DataW H → Nat
  | .lit (.string bytes) => bytes.length + 1
  | .lit _ => 1
  | .nil => 1
  | .ptr d => uptoBulk d + 1
  | .slice elems spare => uptoBulkAll elems + uptoBulkAll spare + 1
  | .agg parts => uptoBulkAll parts + 1
  | .iface _ d => uptoBulk d + 1
  | .map entries => uptoBulkEntries entries + 1
  | .held _ => 1
def uptoBulkAll {H : Type} : List (DataW H) → Nat
  | [] => 0
  | d :: r => uptoBulk d + uptoBulkAll r
def uptoBulkEntries {H : Type} : List (Lit × DataW H) → Nat
  | [] => 0
  | x :: r => uptoBulkEntry x + uptoBulkEntries r
def uptoBulkEntry {H : Type} : Lit × DataW H → Nat
  | (.string bytes, d) => bytes.length + uptoBulk d + 1
  | (_, d) => uptoBulk d + 1
 end
def uptoSmall : (H : Type) → List (DataW H) → Bool := fun _ ds => decide (uptoBulkAll ds ≤ 1048576)
def OpenSpec.upto (s : _root_.Go.ChangeSpec) : _root_.Go.OpenSpec := { _root_.Go.OpenSpec.ofChange s with cond := some uptoSmall }

/-- 'slotwrightlaw.FtaTells', WHERE WHAT IT READS IS OF BULK AT MOST 1048576: true; the input reads as it did. -/
def ftaTellsUptoRow : OpenClaim := { program := "ytddegfgkkepliaa", sum := "25e6b4f180795403d67c59e3ba147ecbac09699783f31ca8445b3797d6bc1747", func := "slotwright/slotwrightlaw.FtaTells", spec := "ftaTells", recurses := true, apart := false, narrowed := true }
def FtaTellsUptoSaid : Prop := ftaTellsUptoRow.holds Try.pinned (OpenSpec.upto ftaTellsSpec)

/-- 'slotwrightkeep.FtaSafe', WHERE WHAT IT READS IS OF BULK AT MOST 1048576: true; the input reads as it did. -/
def ftaSafeUptoRow : OpenClaim := { program := "ytddegfgkkepliaa", sum := "25e6b4f180795403d67c59e3ba147ecbac09699783f31ca8445b3797d6bc1747", func := "slotwright/slotwrightkeep.FtaSafe", spec := "ftaSafe", recurses := true, apart := false, narrowed := true }
def FtaSafeUptoSaid : Prop := ftaSafeUptoRow.holds Try.pinned (OpenSpec.upto ftaSafeSpec)

/-- 'slotwrightkeep.FtaHalf', WHERE WHAT IT READS IS OF BULK AT MOST 1048576: true; the input reads as it did. -/
def ftaHalfUptoRow : OpenClaim := { program := "ytddegfgkkepliaa", sum := "25e6b4f180795403d67c59e3ba147ecbac09699783f31ca8445b3797d6bc1747", func := "slotwright/slotwrightkeep.FtaHalf", spec := "ftaHalf", recurses := true, apart := false, narrowed := true }
def FtaHalfUptoSaid : Prop := ftaHalfUptoRow.holds Try.pinned (OpenSpec.upto ftaHalfSpec)

/-- 'slotwrightkeep.FtaShift', WHERE WHAT IT READS IS OF BULK AT MOST 1048576: true; the input reads as it did. -/
def ftaShiftUptoRow : OpenClaim := { program := "ytddegfgkkepliaa", sum := "25e6b4f180795403d67c59e3ba147ecbac09699783f31ca8445b3797d6bc1747", func := "slotwright/slotwrightkeep.FtaShift", spec := "ftaShift", recurses := true, apart := false, narrowed := true }
def FtaShiftUptoSaid : Prop := ftaShiftUptoRow.holds Try.pinned (OpenSpec.upto ftaShiftSpec)

/-- 'slotwrightkeep.FtaRises', WHERE WHAT IT READS IS OF BULK AT MOST 1048576: true; the input reads as it did. -/
def ftaRisesUptoRow : OpenClaim := { program := "ytddegfgkkepliaa", sum := "25e6b4f180795403d67c59e3ba147ecbac09699783f31ca8445b3797d6bc1747", func := "slotwright/slotwrightkeep.FtaRises", spec := "ftaRises", recurses := true, apart := false, narrowed := true }
def FtaRisesUptoSaid : Prop := ftaRisesUptoRow.holds Try.pinned (OpenSpec.upto ftaRisesSpec)

end Rows
end Go.Proofs.Ytddegfgkkepliaa
