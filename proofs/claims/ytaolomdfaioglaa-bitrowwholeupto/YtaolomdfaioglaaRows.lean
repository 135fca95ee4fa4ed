/-
  No cell of these rows narrows 'for every input' (looked for: loops, veiled, ifaces, maps, wideKeys, modest, calm, conditions, laid).
  DERIVED. THE GIVEN ROWS OF THIS SEAT. 6 by the template 'for every input the law returns true; each argument reads behind the call as it read before'; 0 by the template 'total and deterministic' (their statements: YtaolomdfaioglaaTotals.lean).
  GIVEN WITH THE SEED: the statements are not yours to turn. If you find one false, say at which input.
  Laid BY PROGRAM, IN A SANDBOX (cutbox-rows.mjs): the forced cells as the released guide's own fill.sh prints them over the translation 85e8b8466746ba09… (all of the seat's roots in one cut). By AI agents, Wed Nov 11 2026. No macro, syntax, notation, axiom, sorry.
-/
import Derived.Test.YtaolomdfaioglaaChecked
import GoSem.Claim
import GoSem.ClaimJoined
import GoSem.ClaimMapViews
import Derived.JoinedTies
import Derived.KernelRfl
namespace Go.Proofs.Ytaolomdfaioglaa
/- THE CELL 'sum', in the pinned program and in every row, IS THE sha256 OF THE DUMP (.gsa) THAT YtaolomdfaioglaaProg.lean LOADS. Nothing in Lean hashes anything: it is a label: what it is worth is what the hold of that sum in a sandbox is worth. -/
noncomputable def Try.pinned : Pinned := { name := "ytaolomdfaioglaa", sum := "85e8b8466746ba09d7f7f1c9faa3dafbb6c116d9fbfa52f3ba8211db45e5f311", checked := Try.checked }
namespace Rows
def none {H : Type} : Left H := { results := [], args := [] }

/-- 'slotwrightlaw.BitrowPuts': WHATEVER THE INPUT: true; the input reads as it did. -/
def bitrowPutsSpec : ChangeSpec := { name := "bitrowPuts", fn := fun _ => fun
  | [d1, d2, d3, d4] => { results := [.lit (.bool true)], args := [d1, d2, d3, d4] }
  | _ => none }
def bitrowPutsRow : OpenClaim := { program := "ytaolomdfaioglaa", sum := "85e8b8466746ba09d7f7f1c9faa3dafbb6c116d9fbfa52f3ba8211db45e5f311", func := "slotwright/slotwrightlaw.BitrowPuts", spec := "bitrowPuts", apart := false }
def BitrowPutsSaid : Prop := bitrowPutsRow.holds Try.pinned (OpenSpec.ofChange bitrowPutsSpec)

/-- ITS FALSE NEIGHBOUR: 'it returns false'. Refute it at one input. -/
def bitrowPutsWrong : ChangeSpec := { name := "bitrowPuts", fn := fun _ => fun
  | [d1, d2, d3, d4] => { results := [.lit (.bool false)], args := [d1, d2, d3, d4] }
  | _ => none }
def BitrowPutsWrongFalsely : Prop := bitrowPutsRow.holds Try.pinned (OpenSpec.ofChange bitrowPutsWrong)

/-- 'slotwrightlaw.BitrowPacks': WHATEVER THE INPUT: true; the input reads as it did. -/
def bitrowPacksSpec : ChangeSpec := { name := "bitrowPacks", fn := fun _ => fun
  | [d1, d2, d3] => { results := [.lit (.bool true)], args := [d1, d2, d3] }
  | _ => none }
def bitrowPacksRow : OpenClaim := { program := "ytaolomdfaioglaa", sum := "85e8b8466746ba09d7f7f1c9faa3dafbb6c116d9fbfa52f3ba8211db45e5f311", func := "slotwright/slotwrightlaw.BitrowPacks", spec := "bitrowPacks", apart := false }
def BitrowPacksSaid : Prop := bitrowPacksRow.holds Try.pinned (OpenSpec.ofChange bitrowPacksSpec)

/-- ITS FALSE NEIGHBOUR: 'it returns false'. Refute it at one input. -/
def bitrowPacksWrong : ChangeSpec := { name := "bitrowPacks", fn := fun _ => fun
  | [d1, d2, d3] => { results := [.lit (.bool false)], args := [d1, d2, d3] }
  | _ => none }
def BitrowPacksWrongFalsely : Prop := bitrowPacksRow.holds Try.pinned (OpenSpec.ofChange bitrowPacksWrong)

/-- 'slotwrightkeep.BitrowBack': WHATEVER THE INPUT: true; the input reads as it did. -/
def bitrowBackSpec : ChangeSpec := { name := "bitrowBack", fn := fun _ => fun
  | [d1, d2, d3] => { results := [.lit (.bool true)], args := [d1, d2, d3] }
  | _ => none }
def bitrowBackRow : OpenClaim := { program := "ytaolomdfaioglaa", sum := "85e8b8466746ba09d7f7f1c9faa3dafbb6c116d9fbfa52f3ba8211db45e5f311", func := "slotwright/slotwrightkeep.BitrowBack", spec := "bitrowBack", apart := false }
def BitrowBackSaid : Prop := bitrowBackRow.holds Try.pinned (OpenSpec.ofChange bitrowBackSpec)

/-- ITS FALSE NEIGHBOUR: 'it returns false'. Refute it at one input. -/
def bitrowBackWrong : ChangeSpec := { name := "bitrowBack", fn := fun _ => fun
  | [d1, d2, d3] => { results := [.lit (.bool false)], args := [d1, d2, d3] }
  | _ => none }
def BitrowBackWrongFalsely : Prop := bitrowBackRow.holds Try.pinned (OpenSpec.ofChange bitrowBackWrong)

/-- 'slotwrightkeep.BitrowOrder': WHATEVER THE INPUT: true; the input reads as it did. -/
def bitrowOrderSpec : ChangeSpec := { name := "bitrowOrder", fn := fun _ => fun
  | [d1, d2, d3] => { results := [.lit (.bool true)], args := [d1, d2, d3] }
  | _ => none }
def bitrowOrderRow : OpenClaim := { program := "ytaolomdfaioglaa", sum := "85e8b8466746ba09d7f7f1c9faa3dafbb6c116d9fbfa52f3ba8211db45e5f311", func := "slotwright/slotwrightkeep.BitrowOrder", spec := "bitrowOrder", apart := false }
def BitrowOrderSaid : Prop := bitrowOrderRow.holds Try.pinned (OpenSpec.ofChange bitrowOrderSpec)

/-- ITS FALSE NEIGHBOUR: 'it returns false'. Refute it at one input. -/
def bitrowOrderWrong : ChangeSpec := { name := "bitrowOrder", fn := fun _ => fun
  | [d1, d2, d3] => { results := [.lit (.bool false)], args := [d1, d2, d3] }
  | _ => none }
def BitrowOrderWrongFalsely : Prop := bitrowOrderRow.holds Try.pinned (OpenSpec.ofChange bitrowOrderWrong)

/-- 'slotwrightkeep.BitrowThere': WHATEVER THE INPUT: true; the input reads as it did. -/
def bitrowThereSpec : ChangeSpec := { name := "bitrowThere", fn := fun _ => fun
  | [d1, d2] => { results := [.lit (.bool true)], args := [d1, d2] }
  | _ => none }
def bitrowThereRow : OpenClaim := { program := "ytaolomdfaioglaa", sum := "85e8b8466746ba09d7f7f1c9faa3dafbb6c116d9fbfa52f3ba8211db45e5f311", func := "slotwright/slotwrightkeep.BitrowThere", spec := "bitrowThere", apart := false }
def BitrowThereSaid : Prop := bitrowThereRow.holds Try.pinned (OpenSpec.ofChange bitrowThereSpec)

/-- ITS FALSE NEIGHBOUR: 'it returns false'. Refute it at one input. -/
def bitrowThereWrong : ChangeSpec := { name := "bitrowThere", fn := fun _ => fun
  | [d1, d2] => { results := [.lit (.bool false)], args := [d1, d2] }
  | _ => none }
def BitrowThereWrongFalsely : Prop := bitrowThereRow.holds Try.pinned (OpenSpec.ofChange bitrowThereWrong)

/-- 'slotwrightkeep.BitrowWhole': WHATEVER THE INPUT: true; the input reads as it did. -/
def bitrowWholeSpec : ChangeSpec := { name := "bitrowWhole", fn := fun _ => fun
  | [d1, d2] => { results := [.lit (.bool true)], args := [d1, d2] }
  | _ => none }
def bitrowWholeRow : OpenClaim := { program := "ytaolomdfaioglaa", sum := "85e8b8466746ba09d7f7f1c9faa3dafbb6c116d9fbfa52f3ba8211db45e5f311", func := "slotwright/slotwrightkeep.BitrowWhole", spec := "bitrowWhole", apart := false }
def BitrowWholeSaid : Prop := bitrowWholeRow.holds Try.pinned (OpenSpec.ofChange bitrowWholeSpec)

/-- ITS FALSE NEIGHBOUR: 'it returns false'. Refute it at one input. -/
def bitrowWholeWrong : ChangeSpec := { name := "bitrowWhole", fn := fun _ => fun
  | [d1, d2] => { results := [.lit (.bool false)], args := [d1, d2] }
  | _ => none }
def BitrowWholeWrongFalsely : Prop := bitrowWholeRow.holds Try.pinned (OpenSpec.ofChange bitrowWholeWrong)

/- THE SECOND FORM. 'bulk': how many values and letters a reading holds, each counted each time it is reached (what is shared counts as often as it is met; a slice's spare places count too). A statement '..UptoSaid' is the law's where the arguments, and the package variables that the reading takes, are together of bulk at most 1048576: NARROWER than '..Said'. Prove '..Said' where nothing that the law and all that it calls make is longer than what came in: it says more and counts as full. Else prove '..UptoSaid'. A law counts once. -/
mutual
def uptoBulk {H : Type} : DataW H → Nat
  | .lit (.string bytes) => bytes.length + 1
  | .lit _ => 1
  | .nil => 1
  | .ptr d => uptoBulk d + 1
  | .slice elems spare => uptoBulkAll elems + uptoBulkAll spare + 1
  | .agg parts => uptoBulkAll parts + 1
  | .iface _ d => uptoBulk d + 1
  | .map entries => uptoBulkEntries entries + 1
  | .held _ => 1
def uptoBulkAll {H : Type} : List (DataW H) → Nat
  | [] => 0
  | d :: r => uptoBulk d + uptoBulkAll r
def uptoBulkEntries {H : Type} : List (Lit × DataW H) → Nat
  | [] => 0
  | x :: r => uptoBulkEntry x + uptoBulkEntries r
def uptoBulkEntry {H : Type} : Lit × DataW H → Nat
  | (.string bytes, d) => bytes.length + uptoBulk d + 1
  | (_, d) => uptoBulk d + 1
 end
def uptoSmall : (H : Type) → List (DataW H) → Bool := fun _ ds => decide (uptoBulkAll ds ≤ 1048576)
def OpenSpec.upto (s : _root_.Go.ChangeSpec) : _root_.Go.OpenSpec := { _root_.Go.OpenSpec.ofChange s with cond := some uptoSmall }

/-- 'slotwrightlaw.BitrowPuts', WHERE WHAT IT READS IS OF BULK AT MOST 1048576: true; the input reads as it did. -/
def bitrowPutsUptoRow : OpenClaim := { program := "ytaolomdfaioglaa", sum := "85e8b8466746ba09d7f7f1c9faa3dafbb6c116d9fbfa52f3ba8211db45e5f311", func := "slotwright/slotwrightlaw.BitrowPuts", spec := "bitrowPuts", apart := false, narrowed := true }
def BitrowPutsUptoSaid : Prop := bitrowPutsUptoRow.holds Try.pinned (OpenSpec.upto bitrowPutsSpec)

/-- 'slotwrightlaw.BitrowPacks', WHERE WHAT IT READS IS OF BULK AT MOST 1048576: true; the input reads as it did. -/
def bitrowPacksUptoRow : OpenClaim := { program := "ytaolomdfaioglaa", sum := "85e8b8466746ba09d7f7f1c9faa3dafbb6c116d9fbfa52f3ba8211db45e5f311", func := "slotwright/slotwrightlaw.BitrowPacks", spec := "bitrowPacks", apart := false, narrowed := true }
def BitrowPacksUptoSaid : Prop := bitrowPacksUptoRow.holds Try.pinned (OpenSpec.upto bitrowPacksSpec)

/-- 'slotwrightkeep.BitrowBack', WHERE WHAT IT READS IS OF BULK AT MOST 1048576: true; the input reads as it did. -/
def bitrowBackUptoRow : OpenClaim := { program := "ytaolomdfaioglaa", sum := "85e8b8466746ba09d7f7f1c9faa3dafbb6c116d9fbfa52f3ba8211db45e5f311", func := "slotwright/slotwrightkeep.BitrowBack", spec := "bitrowBack", apart := false, narrowed := true }
def BitrowBackUptoSaid : Prop := bitrowBackUptoRow.holds Try.pinned (OpenSpec.upto bitrowBackSpec)

/-- 'slotwrightkeep.BitrowOrder', WHERE WHAT IT READS IS OF BULK AT MOST 1048576: true; the input reads as it did. -/
def bitrowOrderUptoRow : OpenClaim := { program := "ytaolomdfaioglaa", sum := "85e8b8466746ba09d7f7f1c9faa3dafbb6c116d9fbfa52f3ba8211db45e5f311", func := "slotwright/slotwrightkeep.BitrowOrder", spec := "bitrowOrder", apart := false, narrowed := true }
def BitrowOrderUptoSaid : Prop := bitrowOrderUptoRow.holds Try.pinned (OpenSpec.upto bitrowOrderSpec)

/-- 'slotwrightkeep.BitrowThere', WHERE WHAT IT READS IS OF BULK AT MOST 1048576: true; the input reads as it did. -/
def bitrowThereUptoRow : OpenClaim := { program := "ytaolomdfaioglaa", sum := "85e8b8466746ba09d7f7f1c9faa3dafbb6c116d9fbfa52f3ba8211db45e5f311", func := "slotwright/slotwrightkeep.BitrowThere", spec := "bitrowThere", apart := false, narrowed := true }
def BitrowThereUptoSaid : Prop := bitrowThereUptoRow.holds Try.pinned (OpenSpec.upto bitrowThereSpec)

/-- 'slotwrightkeep.BitrowWhole', WHERE WHAT IT READS IS OF BULK AT MOST 1048576: true; the input reads as it did. -/
def bitrowWholeUptoRow : OpenClaim := { program := "ytaolomdfaioglaa", sum := "85e8b8466746ba09d7f7f1c9faa3dafbb6c116d9fbfa52f3ba8211db45e5f311", func := "slotwright/slotwrightkeep.BitrowWhole", spec := "bitrowWhole", apart := false, narrowed := true }
def BitrowWholeUptoSaid : Prop := bitrowWholeUptoRow.holds Try.pinned (OpenSpec.upto bitrowWholeSpec)

end Rows
end Go.Proofs.Ytaolomdfaioglaa
