/-
  No cell of these rows narrows 'for every input' (looked for: loops, veiled, ifaces, maps, wideKeys, modest, calm, conditions, laid).
  DERIVED. THE GIVEN ROWS OF THIS SEAT. 5 by the template 'for every input the law returns true; each argument reads behind the call as it read before'; 0 by the template 'total and deterministic' (their statements: YtmmjlleabilinaaTotals.lean).
  GIVEN WITH THE SEED: the statements are not yours to turn. If you find one false, say at which input.
  Laid BY PROGRAM, IN A SANDBOX (cutbox-rows.mjs): the forced cells as the released guide's own fill.sh prints them over the translation 80f41412afb8b1ea… (all of the seat's roots in one cut). By AI agents, Wed Nov 11 2026. No macro, syntax, notation, axiom, sorry.
-/
import Derived.Test.YtmmjlleabilinaaChecked
import GoSem.Claim
import GoSem.ClaimJoined
import GoSem.ClaimMapViews
import Derived.JoinedTies
import Derived.KernelRfl
namespace Go.Proofs.Ytmmjlleabilinaa
/- THE CELL 'sum', in the pinned program and in every row, IS THE sha256 OF THE DUMP (.gsa) THAT YtmmjlleabilinaaProg.lean LOADS. Nothing in Lean hashes anything: it is a label: what it is worth is what the hold of that sum in a sandbox is worth. -/
noncomputable def Try.pinned : Pinned := { name := "ytmmjlleabilinaa", sum := "80f41412afb8b1ea3b11b498a8bb31bd0b9e530015993be3f8e588d2ac66b091", checked := Try.checked }
namespace Rows
def none {H : Type} : Left H := { results := [], args := [] }

/-- 'slotwrightlaw.StuffTells': WHATEVER THE INPUT: true; the input reads as it did. -/
def stuffTellsSpec : ChangeSpec := { name := "stuffTells", fn := fun _ => fun
  | [d] => { results := [.lit (.bool true)], args := [d] }
  | _ => none }
def stuffTellsRow : OpenClaim := { program := "ytmmjlleabilinaa", sum := "80f41412afb8b1ea3b11b498a8bb31bd0b9e530015993be3f8e588d2ac66b091", func := "slotwright/slotwrightlaw.StuffTells", spec := "stuffTells", apart := false }
def StuffTellsSaid : Prop := stuffTellsRow.holds Try.pinned (OpenSpec.ofChange stuffTellsSpec)

/-- ITS FALSE NEIGHBOUR: 'it returns false'. Refute it at one input. -/
def stuffTellsWrong : ChangeSpec := { name := "stuffTells", fn := fun _ => fun
  | [d] => { results := [.lit (.bool false)], args := [d] }
  | _ => none }
def StuffTellsWrongFalsely : Prop := stuffTellsRow.holds Try.pinned (OpenSpec.ofChange stuffTellsWrong)

/-- 'slotwrightkeep.StuffBack': WHATEVER THE INPUT: true; the input reads as it did. -/
def stuffBackSpec : ChangeSpec := { name := "stuffBack", fn := fun _ => fun
  | [d] => { results := [.lit (.bool true)], args := [d] }
  | _ => none }
def stuffBackRow : OpenClaim := { program := "ytmmjlleabilinaa", sum := "80f41412afb8b1ea3b11b498a8bb31bd0b9e530015993be3f8e588d2ac66b091", func := "slotwright/slotwrightkeep.StuffBack", spec := "stuffBack", apart := false }
def StuffBackSaid : Prop := stuffBackRow.holds Try.pinned (OpenSpec.ofChange stuffBackSpec)

/-- ITS FALSE NEIGHBOUR: 'it returns false'. Refute it at one input. -/
def stuffBackWrong : ChangeSpec := { name := "stuffBack", fn := fun _ => fun
  | [d] => { results := [.lit (.bool false)], args := [d] }
  | _ => none }
def StuffBackWrongFalsely : Prop := stuffBackRow.holds Try.pinned (OpenSpec.ofChange stuffBackWrong)

/-- 'slotwrightkeep.StuffNever': WHATEVER THE INPUT: true; the input reads as it did. -/
def stuffNeverSpec : ChangeSpec := { name := "stuffNever", fn := fun _ => fun
  | [d] => { results := [.lit (.bool true)], args := [d] }
  | _ => none }
def stuffNeverRow : OpenClaim := { program := "ytmmjlleabilinaa", sum := "80f41412afb8b1ea3b11b498a8bb31bd0b9e530015993be3f8e588d2ac66b091", func := "slotwright/slotwrightkeep.StuffNever", spec := "stuffNever", apart := false }
def StuffNeverSaid : Prop := stuffNeverRow.holds Try.pinned (OpenSpec.ofChange stuffNeverSpec)

/-- ITS FALSE NEIGHBOUR: 'it returns false'. Refute it at one input. -/
def stuffNeverWrong : ChangeSpec := { name := "stuffNever", fn := fun _ => fun
  | [d] => { results := [.lit (.bool false)], args := [d] }
  | _ => none }
def StuffNeverWrongFalsely : Prop := stuffNeverRow.holds Try.pinned (OpenSpec.ofChange stuffNeverWrong)

/-- 'slotwrightkeep.StuffTurned': WHATEVER THE INPUT: true; the input reads as it did. -/
def stuffTurnedSpec : ChangeSpec := { name := "stuffTurned", fn := fun _ => fun
  | [d] => { results := [.lit (.bool true)], args := [d] }
  | _ => none }
def stuffTurnedRow : OpenClaim := { program := "ytmmjlleabilinaa", sum := "80f41412afb8b1ea3b11b498a8bb31bd0b9e530015993be3f8e588d2ac66b091", func := "slotwright/slotwrightkeep.StuffTurned", spec := "stuffTurned", unfollowed := true, recurses := true, apart := false }
def StuffTurnedSaid : Prop := stuffTurnedRow.holds Try.pinned (OpenSpec.ofChange stuffTurnedSpec)

/-- ITS FALSE NEIGHBOUR: 'it returns false'. Refute it at one input. -/
def stuffTurnedWrong : ChangeSpec := { name := "stuffTurned", fn := fun _ => fun
  | [d] => { results := [.lit (.bool false)], args := [d] }
  | _ => none }
def StuffTurnedWrongFalsely : Prop := stuffTurnedRow.holds Try.pinned (OpenSpec.ofChange stuffTurnedWrong)

/-- 'slotwrightkeep.StuffAhead': WHATEVER THE INPUT: true; the input reads as it did. -/
def stuffAheadSpec : ChangeSpec := { name := "stuffAhead", fn := fun _ => fun
  | [d1, d2] => { results := [.lit (.bool true)], args := [d1, d2] }
  | _ => none }
def stuffAheadRow : OpenClaim := { program := "ytmmjlleabilinaa", sum := "80f41412afb8b1ea3b11b498a8bb31bd0b9e530015993be3f8e588d2ac66b091", func := "slotwright/slotwrightkeep.StuffAhead", spec := "stuffAhead", apart := false }
def StuffAheadSaid : Prop := stuffAheadRow.holds Try.pinned (OpenSpec.ofChange stuffAheadSpec)

/-- ITS FALSE NEIGHBOUR: 'it returns false'. Refute it at one input. -/
def stuffAheadWrong : ChangeSpec := { name := "stuffAhead", fn := fun _ => fun
  | [d1, d2] => { results := [.lit (.bool false)], args := [d1, d2] }
  | _ => none }
def StuffAheadWrongFalsely : Prop := stuffAheadRow.holds Try.pinned (OpenSpec.ofChange stuffAheadWrong)

/- THE SECOND FORM. 'bulk': how many values and letters a reading holds, each counted each time it is reached (what is shared counts as often as it is met; a slice's spare places count too). A statement '..UptoSaid' is the law's where the arguments, and the package variables that the reading takes, are together of bulk at most 1048576: NARROWER than '..Said'. Prove '..Said' where nothing that the law and all that it calls make is longer than what came in: it says more and counts as full. Else prove '..UptoSaid'. A law counts once. -/
mutual
def uptoBulk {H : Type} : DataW H → Nat
  | .lit (.string bytes) => bytes.length + 1
  | .lit _ => 1
  | .nil => 1
  | .ptr d => uptoBulk d + 1
  | .slice elems spare => uptoBulkAll elems + uptoBulkAll spare + 1
  | .agg parts => uptoBulkAll parts + 1
  | .iface _ d => uptoBulk d + 1
  | .map entries => uptoBulkEntries entries + 1
  | .held _ => 1
def uptoBulkAll {H : Type} : List (DataW H) → Nat
  | [] => 0
  | d :: r => uptoBulk d + uptoBulkAll r
def uptoBulkEntries {H : Type} : List (Lit × DataW H) → Nat
  | [] => 0
  | x :: r => uptoBulkEntry x + uptoBulkEntries r
def uptoBulkEntry {H : Type} : Lit × DataW H → Nat
  | (.string bytes, d) => bytes.length + uptoBulk d + 1
  | (_, d) => uptoBulk d + 1
 end
def uptoSmall : (H : Type) → List (DataW H) → Bool := fun _ ds => decide (uptoBulkAll ds ≤ 1048576)
def OpenSpec.upto (s : _root_.Go.ChangeSpec) : _root_.Go.OpenSpec := { _root_.Go.OpenSpec.ofChange s with cond := some uptoSmall }

/-- 'slotwrightlaw.StuffTells', WHERE WHAT IT READS IS OF BULK AT MOST 1048576: true; the input reads as it did. -/
def stuffTellsUptoRow : OpenClaim := { program := "ytmmjlleabilinaa", sum := "80f41412afb8b1ea3b11b498a8bb31bd0b9e530015993be3f8e588d2ac66b091", func := "slotwright/slotwrightlaw.StuffTells", spec := "stuffTells", apart := false, narrowed := true }
def StuffTellsUptoSaid : Prop := stuffTellsUptoRow.holds Try.pinned (OpenSpec.upto stuffTellsSpec)

/-- 'slotwrightkeep.StuffBack', WHERE WHAT IT READS IS OF BULK AT MOST 1048576: true; the input reads as it did. -/
def stuffBackUptoRow : OpenClaim := { program := "ytmmjlleabilinaa", sum := "80f41412afb8b1ea3b11b498a8bb31bd0b9e530015993be3f8e588d2ac66b091", func := "slotwright/slotwrightkeep.StuffBack", spec := "stuffBack", apart := false, narrowed := true }
def StuffBackUptoSaid : Prop := stuffBackUptoRow.holds Try.pinned (OpenSpec.upto stuffBackSpec)

/-- 'slotwrightkeep.StuffNever', WHERE WHAT IT READS IS OF BULK AT MOST 1048576: true; the input reads as it did. -/
def stuffNeverUptoRow : OpenClaim := { program := "ytmmjlleabilinaa", sum := "80f41412afb8b1ea3b11b498a8bb31bd0b9e530015993be3f8e588d2ac66b091", func := "slotwright/slotwrightkeep.StuffNever", spec := "stuffNever", apart := false, narrowed := true }
def StuffNeverUptoSaid : Prop := stuffNeverUptoRow.holds Try.pinned (OpenSpec.upto stuffNeverSpec)

/-- 'slotwrightkeep.StuffTurned', WHERE WHAT IT READS IS OF BULK AT MOST 1048576: true; the input reads as it did. -/
def stuffTurnedUptoRow : OpenClaim := { program := "ytmmjlleabilinaa", sum := "80f41412afb8b1ea3b11b498a8bb31bd0b9e530015993be3f8e588d2ac66b091", func := "slotwright/slotwrightkeep.StuffTurned", spec := "stuffTurned", unfollowed := true, recurses := true, apart := false, narrowed := true }
def StuffTurnedUptoSaid : Prop := stuffTurnedUptoRow.holds Try.pinned (OpenSpec.upto stuffTurnedSpec)

/-- 'slotwrightkeep.StuffAhead', WHERE WHAT IT READS IS OF BULK AT MOST 1048576: true; the input reads as it did. -/
def stuffAheadUptoRow : OpenClaim := { program := "ytmmjlleabilinaa", sum := "80f41412afb8b1ea3b11b498a8bb31bd0b9e530015993be3f8e588d2ac66b091", func := "slotwright/slotwrightkeep.StuffAhead", spec := "stuffAhead", apart := false, narrowed := true }
def StuffAheadUptoSaid : Prop := stuffAheadUptoRow.holds Try.pinned (OpenSpec.upto stuffAheadSpec)

end Rows
end Go.Proofs.Ytmmjlleabilinaa
