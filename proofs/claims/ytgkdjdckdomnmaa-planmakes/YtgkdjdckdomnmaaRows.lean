/-
  No cell of these rows narrows 'for every input' (looked for: loops, veiled, ifaces, maps, wideKeys, modest, calm, conditions, laid).
  DERIVED. THE GIVEN ROWS OF THIS SEAT. 5 by the template 'for every input the law returns true; each argument reads behind the call as it read before'; 0 by the template 'total and deterministic' (their statements: YtgkdjdckdomnmaaTotals.lean).
  GIVEN WITH THE SEED: the statements are not yours to turn. If you find one false, say at which input.
  Laid BY PROGRAM, IN A SANDBOX (cutbox-rows.mjs): the forced cells as the released guide's own fill.sh prints them over the translation 5ed57b8f2d13dc29… (all of the seat's roots in one cut). By AI agents, Wed Nov 11 2026. No macro, syntax, notation, axiom, sorry.
-/
import Derived.Test.YtgkdjdckdomnmaaChecked
import GoSem.Claim
import GoSem.ClaimJoined
import GoSem.ClaimMapViews
import Derived.JoinedTies
import Derived.KernelRfl
namespace Go.Proofs.Ytgkdjdckdomnmaa
/- THE CELL 'sum', in the pinned program and in every row, IS THE sha256 OF THE DUMP (.gsa) THAT YtgkdjdckdomnmaaProg.lean LOADS. Nothing in Lean hashes anything: it is a label: what it is worth is what the hold of that sum in a sandbox is worth. -/
noncomputable def Try.pinned : Pinned := { name := "ytgkdjdckdomnmaa", sum := "5ed57b8f2d13dc29c68b0364d6d2a971ef23d88a2418a4c66c03142f9cb7bb81", checked := Try.checked }
namespace Rows
def none {H : Type} : Left H := { results := [], args := [] }

/-- 'slotwrightlaw.PlanMakes': WHATEVER THE INPUT: true; the input reads as it did. -/
def planMakesSpec : ChangeSpec := { name := "planMakes", fn := fun _ => fun
  | [d1, d2] => { results := [.lit (.bool true)], args := [d1, d2] }
  | _ => none }
def planMakesRow : OpenClaim := { program := "ytgkdjdckdomnmaa", sum := "5ed57b8f2d13dc29c68b0364d6d2a971ef23d88a2418a4c66c03142f9cb7bb81", func := "slotwright/slotwrightlaw.PlanMakes", spec := "planMakes", apart := false }
def PlanMakesSaid : Prop := planMakesRow.holds Try.pinned (OpenSpec.ofChange planMakesSpec)

/-- ITS FALSE NEIGHBOUR: 'it returns false'. Refute it at one input. -/
def planMakesWrong : ChangeSpec := { name := "planMakes", fn := fun _ => fun
  | [d1, d2] => { results := [.lit (.bool false)], args := [d1, d2] }
  | _ => none }
def PlanMakesWrongFalsely : Prop := planMakesRow.holds Try.pinned (OpenSpec.ofChange planMakesWrong)

/-- 'slotwrightkeep.PlanFits': WHATEVER THE INPUT: true; the input reads as it did. -/
def planFitsSpec : ChangeSpec := { name := "planFits", fn := fun _ => fun
  | [d] => { results := [.lit (.bool true)], args := [d] }
  | _ => none }
def planFitsRow : OpenClaim := { program := "ytgkdjdckdomnmaa", sum := "5ed57b8f2d13dc29c68b0364d6d2a971ef23d88a2418a4c66c03142f9cb7bb81", func := "slotwright/slotwrightkeep.PlanFits", spec := "planFits", apart := false }
def PlanFitsSaid : Prop := planFitsRow.holds Try.pinned (OpenSpec.ofChange planFitsSpec)

/-- ITS FALSE NEIGHBOUR: 'it returns false'. Refute it at one input. -/
def planFitsWrong : ChangeSpec := { name := "planFits", fn := fun _ => fun
  | [d] => { results := [.lit (.bool false)], args := [d] }
  | _ => none }
def PlanFitsWrongFalsely : Prop := planFitsRow.holds Try.pinned (OpenSpec.ofChange planFitsWrong)

/-- 'slotwrightkeep.PlanMost': WHATEVER THE INPUT: true; the input reads as it did. -/
def planMostSpec : ChangeSpec := { name := "planMost", fn := fun _ => fun
  | [d1, d2] => { results := [.lit (.bool true)], args := [d1, d2] }
  | _ => none }
def planMostRow : OpenClaim := { program := "ytgkdjdckdomnmaa", sum := "5ed57b8f2d13dc29c68b0364d6d2a971ef23d88a2418a4c66c03142f9cb7bb81", func := "slotwright/slotwrightkeep.PlanMost", spec := "planMost", apart := false }
def PlanMostSaid : Prop := planMostRow.holds Try.pinned (OpenSpec.ofChange planMostSpec)

/-- ITS FALSE NEIGHBOUR: 'it returns false'. Refute it at one input. -/
def planMostWrong : ChangeSpec := { name := "planMost", fn := fun _ => fun
  | [d1, d2] => { results := [.lit (.bool false)], args := [d1, d2] }
  | _ => none }
def PlanMostWrongFalsely : Prop := planMostRow.holds Try.pinned (OpenSpec.ofChange planMostWrong)

/-- 'slotwrightkeep.PlanShift': WHATEVER THE INPUT: true; the input reads as it did. -/
def planShiftSpec : ChangeSpec := { name := "planShift", fn := fun _ => fun
  | [d1, d2, d3] => { results := [.lit (.bool true)], args := [d1, d2, d3] }
  | _ => none }
def planShiftRow : OpenClaim := { program := "ytgkdjdckdomnmaa", sum := "5ed57b8f2d13dc29c68b0364d6d2a971ef23d88a2418a4c66c03142f9cb7bb81", func := "slotwright/slotwrightkeep.PlanShift", spec := "planShift", apart := false }
def PlanShiftSaid : Prop := planShiftRow.holds Try.pinned (OpenSpec.ofChange planShiftSpec)

/-- ITS FALSE NEIGHBOUR: 'it returns false'. Refute it at one input. -/
def planShiftWrong : ChangeSpec := { name := "planShift", fn := fun _ => fun
  | [d1, d2, d3] => { results := [.lit (.bool false)], args := [d1, d2, d3] }
  | _ => none }
def PlanShiftWrongFalsely : Prop := planShiftRow.holds Try.pinned (OpenSpec.ofChange planShiftWrong)

/-- 'slotwrightkeep.PlanLess': WHATEVER THE INPUT: true; the input reads as it did. -/
def planLessSpec : ChangeSpec := { name := "planLess", fn := fun _ => fun
  | [d1, d2] => { results := [.lit (.bool true)], args := [d1, d2] }
  | _ => none }
def planLessRow : OpenClaim := { program := "ytgkdjdckdomnmaa", sum := "5ed57b8f2d13dc29c68b0364d6d2a971ef23d88a2418a4c66c03142f9cb7bb81", func := "slotwright/slotwrightkeep.PlanLess", spec := "planLess", apart := false }
def PlanLessSaid : Prop := planLessRow.holds Try.pinned (OpenSpec.ofChange planLessSpec)

/-- ITS FALSE NEIGHBOUR: 'it returns false'. Refute it at one input. -/
def planLessWrong : ChangeSpec := { name := "planLess", fn := fun _ => fun
  | [d1, d2] => { results := [.lit (.bool false)], args := [d1, d2] }
  | _ => none }
def PlanLessWrongFalsely : Prop := planLessRow.holds Try.pinned (OpenSpec.ofChange planLessWrong)

/- THE SECOND FORM. 'bulk': how many values and letters a reading holds, each counted each time it is reached (what is shared counts as often as it is met; a slice's spare places count too). A statement '..UptoSaid' is the law's where the arguments, and the package variables that the reading takes, are together of bulk at most 1048576: NARROWER than '..Said'. Prove '..Said' where nothing that the law and all that it calls make is longer than what came in: it says more and counts as full. Else prove '..UptoSaid'. A law counts once. -/
mutual
def uptoBulk {H : Type} : DataW H → Nat
  | .lit (.string bytes) => bytes.length + 1
  | .lit _ => 1
  | .nil => 1
  | .ptr d => uptoBulk d + 1
  | .slice elems spare => uptoBulkAll elems + uptoBulkAll spare + 1
  | .agg parts => uptoBulkAll parts + 1
  | .iface _ d => uptoBulk d + 1
  | .map entries => uptoBulkEntries entries + 1
  | .held _ => 1
def uptoBulkAll {H : Type} : List (DataW H) → Nat
  | [] => 0
  | d :: r => uptoBulk d + uptoBulkAll r
def uptoBulkEntries {H : Type} : List (Lit × DataW H) → Nat
  | [] => 0
  | x :: r => uptoBulkEntry x + uptoBulkEntries r
def uptoBulkEntry {H : Type} : Lit × DataW H → Nat
  | (.string bytes, d) => bytes.length + uptoBulk d + 1
  | (_, d) => uptoBulk d + 1
 end
def uptoSmall : (H : Type) → List (DataW H) → Bool := fun _ ds => decide (uptoBulkAll ds ≤ 1048576)
def OpenSpec.upto (s : _root_.Go.ChangeSpec) : _root_.Go.OpenSpec := { _root_.Go.OpenSpec.ofChange s with cond := some uptoSmall }

/-- 'slotwrightlaw.PlanMakes', WHERE WHAT IT READS IS OF BULK AT MOST 1048576: true; the input reads as it did. -/
def planMakesUptoRow : OpenClaim := { program := "ytgkdjdckdomnmaa", sum := "5ed57b8f2d13dc29c68b0364d6d2a971ef23d88a2418a4c66c03142f9cb7bb81", func := "slotwright/slotwrightlaw.PlanMakes", spec := "planMakes", apart := false, narrowed := true }
def PlanMakesUptoSaid : Prop := planMakesUptoRow.holds Try.pinned (OpenSpec.upto planMakesSpec)

/-- 'slotwrightkeep.PlanFits', WHERE WHAT IT READS IS OF BULK AT MOST 1048576: true; the input reads as it did. -/
def planFitsUptoRow : OpenClaim := { program := "ytgkdjdckdomnmaa", sum := "5ed57b8f2d13dc29c68b0364d6d2a971ef23d88a2418a4c66c03142f9cb7bb81", func := "slotwright/slotwrightkeep.PlanFits", spec := "planFits", apart := false, narrowed := true }
def PlanFitsUptoSaid : Prop := planFitsUptoRow.holds Try.pinned (OpenSpec.upto planFitsSpec)

/-- 'slotwrightkeep.PlanMost', WHERE WHAT IT READS IS OF BULK AT MOST 1048576: true; the input reads as it did. -/
def planMostUptoRow : OpenClaim := { program := "ytgkdjdckdomnmaa", sum := "5ed57b8f2d13dc29c68b0364d6d2a971ef23d88a2418a4c66c03142f9cb7bb81", func := "slotwright/slotwrightkeep.PlanMost", spec := "planMost", apart := false, narrowed := true }
def PlanMostUptoSaid : Prop := planMostUptoRow.holds Try.pinned (OpenSpec.upto planMostSpec)

/-- 'slotwrightkeep.PlanShift', WHERE WHAT IT READS IS OF BULK AT MOST 1048576: true; the input reads as it did. -/
def planShiftUptoRow : OpenClaim := { program := "ytgkdjdckdomnmaa", sum := "5ed57b8f2d13dc29c68b0364d6d2a971ef23d88a2418a4c66c03142f9cb7bb81", func := "slotwright/slotwrightkeep.PlanShift", spec := "planShift", apart := false, narrowed := true }
def PlanShiftUptoSaid : Prop := planShiftUptoRow.holds Try.pinned (OpenSpec.upto planShiftSpec)

/-- 'slotwrightkeep.PlanLess', WHERE WHAT IT READS IS OF BULK AT MOST 1048576: true; the input reads as it did. -/
def planLessUptoRow : OpenClaim := { program := "ytgkdjdckdomnmaa", sum := "5ed57b8f2d13dc29c68b0364d6d2a971ef23d88a2418a4c66c03142f9cb7bb81", func := "slotwright/slotwrightkeep.PlanLess", spec := "planLess", apart := false, narrowed := true }
def PlanLessUptoSaid : Prop := planLessUptoRow.holds Try.pinned (OpenSpec.upto planLessSpec)

end Rows
end Go.Proofs.Ytgkdjdckdomnmaa
