/-
  No cell of these rows narrows 'for every input' (looked for: loops, veiled, ifaces, maps, wideKeys, modest, calm, conditions, laid).
  DERIVED. THE GIVEN ROWS OF THIS SEAT. 5 by the template 'for every input the law returns true; each argument reads behind the call as it read before'; 0 by the template 'total and deterministic' (their statements: YtfnkaccfhlkfdaaTotals.lean).
  GIVEN WITH THE SEED: the statements are not yours to turn. If you find one false, say at which input.
  Laid BY PROGRAM, IN A SANDBOX (cutbox-rows.mjs): the forced cells as the released guide's own fill.sh prints them over the translation ecf4762d655796b3… (all of the seat's roots in one cut). By AI agents, Wed Nov 11 2026. No macro, syntax, notation, axiom, sorry.
-/
import Derived.Test.YtfnkaccfhlkfdaaChecked
import GoSem.Claim
import GoSem.ClaimJoined
import GoSem.ClaimMapViews
import Derived.JoinedTies
import Derived.KernelRfl
namespace Go.Proofs.Ytfnkaccfhlkfdaa
/- THE CELL 'sum', in the pinned program and in every row, IS THE sha256 OF THE DUMP (.gsa) THAT YtfnkaccfhlkfdaaProg.lean LOADS. Nothing in Lean hashes anything: it is a label: what it is worth is what the hold of that sum in a sandbox is worth. -/
noncomputable def Try.pinned : Pinned := { name := "ytfnkaccfhlkfdaa", sum := "ecf4762d655796b3a25512233cf9f65ca4adf24c99bbb83c485ffb5f48c84459", checked := Try.checked }
namespace Rows
def none {H : Type} : Left H := { results := [], args := [] }

/-- 'slotwrightlaw.LineTells': WHATEVER THE INPUT: true; the input reads as it did. -/
def lineTellsSpec : ChangeSpec := { name := "lineTells", fn := fun _ => fun
  | [d1, d2] => { results := [.lit (.bool true)], args := [d1, d2] }
  | _ => none }
def lineTellsRow : OpenClaim := { program := "ytfnkaccfhlkfdaa", sum := "ecf4762d655796b3a25512233cf9f65ca4adf24c99bbb83c485ffb5f48c84459", func := "slotwright/slotwrightlaw.LineTells", spec := "lineTells", apart := false }
def LineTellsSaid : Prop := lineTellsRow.holds Try.pinned (OpenSpec.ofChange lineTellsSpec)

/-- ITS FALSE NEIGHBOUR: 'it returns false'. Refute it at one input. -/
def lineTellsWrong : ChangeSpec := { name := "lineTells", fn := fun _ => fun
  | [d1, d2] => { results := [.lit (.bool false)], args := [d1, d2] }
  | _ => none }
def LineTellsWrongFalsely : Prop := lineTellsRow.holds Try.pinned (OpenSpec.ofChange lineTellsWrong)

/-- 'slotwrightkeep.LineBoth': WHATEVER THE INPUT: true; the input reads as it did. -/
def lineBothSpec : ChangeSpec := { name := "lineBoth", fn := fun _ => fun
  | [d] => { results := [.lit (.bool true)], args := [d] }
  | _ => none }
def lineBothRow : OpenClaim := { program := "ytfnkaccfhlkfdaa", sum := "ecf4762d655796b3a25512233cf9f65ca4adf24c99bbb83c485ffb5f48c84459", func := "slotwright/slotwrightkeep.LineBoth", spec := "lineBoth", apart := false }
def LineBothSaid : Prop := lineBothRow.holds Try.pinned (OpenSpec.ofChange lineBothSpec)

/-- ITS FALSE NEIGHBOUR: 'it returns false'. Refute it at one input. -/
def lineBothWrong : ChangeSpec := { name := "lineBoth", fn := fun _ => fun
  | [d] => { results := [.lit (.bool false)], args := [d] }
  | _ => none }
def LineBothWrongFalsely : Prop := lineBothRow.holds Try.pinned (OpenSpec.ofChange lineBothWrong)

/-- 'slotwrightkeep.LineTurn': WHATEVER THE INPUT: true; the input reads as it did. -/
def lineTurnSpec : ChangeSpec := { name := "lineTurn", fn := fun _ => fun
  | [d1, d2] => { results := [.lit (.bool true)], args := [d1, d2] }
  | _ => none }
def lineTurnRow : OpenClaim := { program := "ytfnkaccfhlkfdaa", sum := "ecf4762d655796b3a25512233cf9f65ca4adf24c99bbb83c485ffb5f48c84459", func := "slotwright/slotwrightkeep.LineTurn", spec := "lineTurn", apart := false }
def LineTurnSaid : Prop := lineTurnRow.holds Try.pinned (OpenSpec.ofChange lineTurnSpec)

/-- ITS FALSE NEIGHBOUR: 'it returns false'. Refute it at one input. -/
def lineTurnWrong : ChangeSpec := { name := "lineTurn", fn := fun _ => fun
  | [d1, d2] => { results := [.lit (.bool false)], args := [d1, d2] }
  | _ => none }
def LineTurnWrongFalsely : Prop := lineTurnRow.holds Try.pinned (OpenSpec.ofChange lineTurnWrong)

/-- 'slotwrightkeep.LineWrong': WHATEVER THE INPUT: true; the input reads as it did. -/
def lineWrongSpec : ChangeSpec := { name := "lineWrong", fn := fun _ => fun
  | [d1, d2, d3] => { results := [.lit (.bool true)], args := [d1, d2, d3] }
  | _ => none }
def lineWrongRow : OpenClaim := { program := "ytfnkaccfhlkfdaa", sum := "ecf4762d655796b3a25512233cf9f65ca4adf24c99bbb83c485ffb5f48c84459", func := "slotwright/slotwrightkeep.LineWrong", spec := "lineWrong", apart := false }
def LineWrongSaid : Prop := lineWrongRow.holds Try.pinned (OpenSpec.ofChange lineWrongSpec)

/-- ITS FALSE NEIGHBOUR: 'it returns false'. Refute it at one input. -/
def lineWrongWrong : ChangeSpec := { name := "lineWrong", fn := fun _ => fun
  | [d1, d2, d3] => { results := [.lit (.bool false)], args := [d1, d2, d3] }
  | _ => none }
def LineWrongWrongFalsely : Prop := lineWrongRow.holds Try.pinned (OpenSpec.ofChange lineWrongWrong)

/-- 'slotwrightkeep.LineStuffed': WHATEVER THE INPUT: true; the input reads as it did. -/
def lineStuffedSpec : ChangeSpec := { name := "lineStuffed", fn := fun _ => fun
  | [d1, d2] => { results := [.lit (.bool true)], args := [d1, d2] }
  | _ => none }
def lineStuffedRow : OpenClaim := { program := "ytfnkaccfhlkfdaa", sum := "ecf4762d655796b3a25512233cf9f65ca4adf24c99bbb83c485ffb5f48c84459", func := "slotwright/slotwrightkeep.LineStuffed", spec := "lineStuffed", apart := false }
def LineStuffedSaid : Prop := lineStuffedRow.holds Try.pinned (OpenSpec.ofChange lineStuffedSpec)

/-- ITS FALSE NEIGHBOUR: 'it returns false'. Refute it at one input. -/
def lineStuffedWrong : ChangeSpec := { name := "lineStuffed", fn := fun _ => fun
  | [d1, d2] => { results := [.lit (.bool false)], args := [d1, d2] }
  | _ => none }
def LineStuffedWrongFalsely : Prop := lineStuffedRow.holds Try.pinned (OpenSpec.ofChange lineStuffedWrong)

/- THE SECOND FORM. 'bulk': how many values and letters a reading holds, each counted each time it is reached (what is shared counts as often as it is met; a slice's spare places count too). A statement '..UptoSaid' is the law's where the arguments, and the package variables that the reading takes, are together of bulk at most 1048576: NARROWER than '..Said'. Prove '..Said' where nothing that the law and all that it calls make is longer than what came in: it says more and counts as full. Else prove '..UptoSaid'. A law counts once. -/
mutual
def uptoBulk {H : Type} : DataW H → Nat
  | .lit (.string bytes) => bytes.length + 1
  | .lit _ => 1
  | .nil => 1
  | .ptr d => uptoBulk d + 1
  | .slice elems spare => uptoBulkAll elems + uptoBulkAll spare + 1
  | .agg parts => uptoBulkAll parts + 1
  | .iface _ d => uptoBulk d + 1
  | .map entries => uptoBulkEntries entries + 1
  | .held _ => 1
def uptoBulkAll {H : Type} : List (DataW H) → Nat
  | [] => 0
  | d :: r => uptoBulk d + uptoBulkAll r
def uptoBulkEntries {H : Type} : List (Lit × DataW H) → Nat
  | [] => 0
  | x :: r => uptoBulkEntry x + uptoBulkEntries r
def uptoBulkEntry {H : Type} : Lit × DataW H → Nat
  | (.string bytes, d) => bytes.length + uptoBulk d + 1
  | (_, d) => uptoBulk d + 1
 end
def uptoSmall : (H : Type) → List (DataW H) → Bool := fun _ ds => decide (uptoBulkAll ds ≤ 1048576)
def OpenSpec.upto (s : _root_.Go.ChangeSpec) : _root_.Go.OpenSpec := { _root_.Go.OpenSpec.ofChange s with cond := some uptoSmall }

/-- 'slotwrightlaw.LineTells', WHERE WHAT IT READS IS OF BULK AT MOST 1048576: true; the input reads as it did. -/
def lineTellsUptoRow : OpenClaim := { program := "ytfnkaccfhlkfdaa", sum := "ecf4762d655796b3a25512233cf9f65ca4adf24c99bbb83c485ffb5f48c84459", func := "slotwright/slotwrightlaw.LineTells", spec := "lineTells", apart := false, narrowed := true }
def LineTellsUptoSaid : Prop := lineTellsUptoRow.holds Try.pinned (OpenSpec.upto lineTellsSpec)

/-- 'slotwrightkeep.LineBoth', WHERE WHAT IT READS IS OF BULK AT MOST 1048576: true; the input reads as it did. -/
def lineBothUptoRow : OpenClaim := { program := "ytfnkaccfhlkfdaa", sum := "ecf4762d655796b3a25512233cf9f65ca4adf24c99bbb83c485ffb5f48c84459", func := "slotwright/slotwrightkeep.LineBoth", spec := "lineBoth", apart := false, narrowed := true }
def LineBothUptoSaid : Prop := lineBothUptoRow.holds Try.pinned (OpenSpec.upto lineBothSpec)

/-- 'slotwrightkeep.LineTurn', WHERE WHAT IT READS IS OF BULK AT MOST 1048576: true; the input reads as it did. -/
def lineTurnUptoRow : OpenClaim := { program := "ytfnkaccfhlkfdaa", sum := "ecf4762d655796b3a25512233cf9f65ca4adf24c99bbb83c485ffb5f48c84459", func := "slotwright/slotwrightkeep.LineTurn", spec := "lineTurn", apart := false, narrowed := true }
def LineTurnUptoSaid : Prop := lineTurnUptoRow.holds Try.pinned (OpenSpec.upto lineTurnSpec)

/-- 'slotwrightkeep.LineWrong', WHERE WHAT IT READS IS OF BULK AT MOST 1048576: true; the input reads as it did. -/
def lineWrongUptoRow : OpenClaim := { program := "ytfnkaccfhlkfdaa", sum := "ecf4762d655796b3a25512233cf9f65ca4adf24c99bbb83c485ffb5f48c84459", func := "slotwright/slotwrightkeep.LineWrong", spec := "lineWrong", apart := false, narrowed := true }
def LineWrongUptoSaid : Prop := lineWrongUptoRow.holds Try.pinned (OpenSpec.upto lineWrongSpec)

/-- 'slotwrightkeep.LineStuffed', WHERE WHAT IT READS IS OF BULK AT MOST 1048576: true; the input reads as it did. -/
def lineStuffedUptoRow : OpenClaim := { program := "ytfnkaccfhlkfdaa", sum := "ecf4762d655796b3a25512233cf9f65ca4adf24c99bbb83c485ffb5f48c84459", func := "slotwright/slotwrightkeep.LineStuffed", spec := "lineStuffed", apart := false, narrowed := true }
def LineStuffedUptoSaid : Prop := lineStuffedUptoRow.holds Try.pinned (OpenSpec.upto lineStuffedSpec)

end Rows
end Go.Proofs.Ytfnkaccfhlkfdaa
