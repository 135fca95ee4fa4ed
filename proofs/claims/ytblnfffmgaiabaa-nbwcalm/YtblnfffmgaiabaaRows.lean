/-
  No cell of these rows narrows 'for every input' (looked for: loops, veiled, ifaces, maps, wideKeys, modest, calm, conditions, laid).
  DERIVED. THE GIVEN ROWS OF THIS SEAT. 5 by the template 'for every input the law returns true; each argument reads behind the call as it read before'; 0 by the template 'total and deterministic' (their statements: YtblnfffmgaiabaaTotals.lean).
  GIVEN WITH THE SEED: the statements are not yours to turn. If you find one false, say at which input.
  Laid BY PROGRAM, IN A SANDBOX (cutbox-rows.mjs): the forced cells as the released guide's own fill.sh prints them over the translation 10c2c753f599319f… (all of the seat's roots in one cut). By AI agents, Wed Nov 11 2026. No macro, syntax, notation, axiom, sorry.
-/
import Derived.Test.YtblnfffmgaiabaaChecked
import GoSem.Claim
import GoSem.ClaimJoined
import GoSem.ClaimMapViews
import Derived.JoinedTies
import Derived.KernelRfl
namespace Go.Proofs.Ytblnfffmgaiabaa
/- THE CELL 'sum', in the pinned program and in every row, IS THE sha256 OF THE DUMP (.gsa) THAT YtblnfffmgaiabaaProg.lean LOADS. Nothing in Lean hashes anything: it is a label: what it is worth is what the hold of that sum in a sandbox is worth. -/
noncomputable def Try.pinned : Pinned := { name := "ytblnfffmgaiabaa", sum := "10c2c753f599319fbe1b421f5a527ccd83cf78b1edb4c5cb01e07261167b7977", checked := Try.checked }
namespace Rows
def none {H : Type} : Left H := { results := [], args := [] }

/-- 'slotwrightlaw.NbwPlays': WHATEVER THE INPUT: true; the input reads as it did. -/
def nbwPlaysSpec : ChangeSpec := { name := "nbwPlays", fn := fun _ => fun
  | [d] => { results := [.lit (.bool true)], args := [d] }
  | _ => none }
def nbwPlaysRow : OpenClaim := { program := "ytblnfffmgaiabaa", sum := "10c2c753f599319fbe1b421f5a527ccd83cf78b1edb4c5cb01e07261167b7977", func := "slotwright/slotwrightlaw.NbwPlays", spec := "nbwPlays", unfollowed := true, recurses := true, apart := false }
def NbwPlaysSaid : Prop := nbwPlaysRow.holds Try.pinned (OpenSpec.ofChange nbwPlaysSpec)

/-- ITS FALSE NEIGHBOUR: 'it returns false'. Refute it at one input. -/
def nbwPlaysWrong : ChangeSpec := { name := "nbwPlays", fn := fun _ => fun
  | [d] => { results := [.lit (.bool false)], args := [d] }
  | _ => none }
def NbwPlaysWrongFalsely : Prop := nbwPlaysRow.holds Try.pinned (OpenSpec.ofChange nbwPlaysWrong)

/-- 'slotwrightkeep.NbwWhole': WHATEVER THE INPUT: true; the input reads as it did. -/
def nbwWholeSpec : ChangeSpec := { name := "nbwWhole", fn := fun _ => fun
  | [d] => { results := [.lit (.bool true)], args := [d] }
  | _ => none }
def nbwWholeRow : OpenClaim := { program := "ytblnfffmgaiabaa", sum := "10c2c753f599319fbe1b421f5a527ccd83cf78b1edb4c5cb01e07261167b7977", func := "slotwright/slotwrightkeep.NbwWhole", spec := "nbwWhole", unfollowed := true, recurses := true, apart := false }
def NbwWholeSaid : Prop := nbwWholeRow.holds Try.pinned (OpenSpec.ofChange nbwWholeSpec)

/-- ITS FALSE NEIGHBOUR: 'it returns false'. Refute it at one input. -/
def nbwWholeWrong : ChangeSpec := { name := "nbwWhole", fn := fun _ => fun
  | [d] => { results := [.lit (.bool false)], args := [d] }
  | _ => none }
def NbwWholeWrongFalsely : Prop := nbwWholeRow.holds Try.pinned (OpenSpec.ofChange nbwWholeWrong)

/-- 'slotwrightkeep.NbwNew': WHATEVER THE INPUT: true; the input reads as it did. -/
def nbwNewSpec : ChangeSpec := { name := "nbwNew", fn := fun _ => fun
  | [d1, d2] => { results := [.lit (.bool true)], args := [d1, d2] }
  | _ => none }
def nbwNewRow : OpenClaim := { program := "ytblnfffmgaiabaa", sum := "10c2c753f599319fbe1b421f5a527ccd83cf78b1edb4c5cb01e07261167b7977", func := "slotwright/slotwrightkeep.NbwNew", spec := "nbwNew", unfollowed := true, recurses := true, apart := false }
def NbwNewSaid : Prop := nbwNewRow.holds Try.pinned (OpenSpec.ofChange nbwNewSpec)

/-- ITS FALSE NEIGHBOUR: 'it returns false'. Refute it at one input. -/
def nbwNewWrong : ChangeSpec := { name := "nbwNew", fn := fun _ => fun
  | [d1, d2] => { results := [.lit (.bool false)], args := [d1, d2] }
  | _ => none }
def NbwNewWrongFalsely : Prop := nbwNewRow.holds Try.pinned (OpenSpec.ofChange nbwNewWrong)

/-- 'slotwrightkeep.NbwCalm': WHATEVER THE INPUT: true; the input reads as it did. -/
def nbwCalmSpec : ChangeSpec := { name := "nbwCalm", fn := fun _ => fun
  | [d1, d2] => { results := [.lit (.bool true)], args := [d1, d2] }
  | _ => none }
def nbwCalmRow : OpenClaim := { program := "ytblnfffmgaiabaa", sum := "10c2c753f599319fbe1b421f5a527ccd83cf78b1edb4c5cb01e07261167b7977", func := "slotwright/slotwrightkeep.NbwCalm", spec := "nbwCalm", unfollowed := true, recurses := true, apart := false }
def NbwCalmSaid : Prop := nbwCalmRow.holds Try.pinned (OpenSpec.ofChange nbwCalmSpec)

/-- ITS FALSE NEIGHBOUR: 'it returns false'. Refute it at one input. -/
def nbwCalmWrong : ChangeSpec := { name := "nbwCalm", fn := fun _ => fun
  | [d1, d2] => { results := [.lit (.bool false)], args := [d1, d2] }
  | _ => none }
def NbwCalmWrongFalsely : Prop := nbwCalmRow.holds Try.pinned (OpenSpec.ofChange nbwCalmWrong)

/-- 'slotwrightkeep.NbwWriter': WHATEVER THE INPUT: true; the input reads as it did. -/
def nbwWriterSpec : ChangeSpec := { name := "nbwWriter", fn := fun _ => fun
  | [d] => { results := [.lit (.bool true)], args := [d] }
  | _ => none }
def nbwWriterRow : OpenClaim := { program := "ytblnfffmgaiabaa", sum := "10c2c753f599319fbe1b421f5a527ccd83cf78b1edb4c5cb01e07261167b7977", func := "slotwright/slotwrightkeep.NbwWriter", spec := "nbwWriter", unfollowed := true, recurses := true, apart := false }
def NbwWriterSaid : Prop := nbwWriterRow.holds Try.pinned (OpenSpec.ofChange nbwWriterSpec)

/-- ITS FALSE NEIGHBOUR: 'it returns false'. Refute it at one input. -/
def nbwWriterWrong : ChangeSpec := { name := "nbwWriter", fn := fun _ => fun
  | [d] => { results := [.lit (.bool false)], args := [d] }
  | _ => none }
def NbwWriterWrongFalsely : Prop := nbwWriterRow.holds Try.pinned (OpenSpec.ofChange nbwWriterWrong)

/- THE SECOND FORM. 'bulk': how many values and letters a reading holds, each counted each time it is reached (what is shared counts as often as it is met; a slice's spare places count too). A statement '..UptoSaid' is the law's where the arguments, and the package variables that the reading takes, are together of bulk at most 1048576: NARROWER than '..Said'. Prove '..Said' where nothing that the law and all that it calls make is longer than what came in: it says more and counts as full. Else prove '..UptoSaid'. A law counts once. -/
mutual
def uptoBulk {H : Type} : DataW H → Nat
  | .lit (.string bytes) => bytes.length + 1
  | .lit _ => 1
  | .nil => 1
  | .ptr d => uptoBulk d + 1
  | .slice elems spare => uptoBulkAll elems + uptoBulkAll spare + 1
  | .agg parts => uptoBulkAll parts + 1
  | .iface _ d => uptoBulk d + 1
  | .map entries => uptoBulkEntries entries + 1
  | .held _ => 1
def uptoBulkAll {H : Type} : List (DataW H) → Nat
  | [] => 0
  | d :: r => uptoBulk d + uptoBulkAll r
def uptoBulkEntries {H : Type} : List (Lit × DataW H) → Nat
  | [] => 0
  | x :: r => uptoBulkEntry x + uptoBulkEntries r
def uptoBulkEntry {H : Type} : Lit × DataW H → Nat
  | (.string bytes, d) => bytes.length + uptoBulk d + 1
  | (_, d) => uptoBulk d + 1
 end
def uptoSmall : (H : Type) → List (DataW H) → Bool := fun _ ds => decide (uptoBulkAll ds ≤ 1048576)
def OpenSpec.upto (s : _root_.Go.ChangeSpec) : _root_.Go.OpenSpec := { _root_.Go.OpenSpec.ofChange s with cond := some uptoSmall }

/-- 'slotwrightlaw.NbwPlays', WHERE WHAT IT READS IS OF BULK AT MOST 1048576: true; the input reads as it did. -/
def nbwPlaysUptoRow : OpenClaim := { program := "ytblnfffmgaiabaa", sum := "10c2c753f599319fbe1b421f5a527ccd83cf78b1edb4c5cb01e07261167b7977", func := "slotwright/slotwrightlaw.NbwPlays", spec := "nbwPlays", unfollowed := true, recurses := true, apart := false, narrowed := true }
def NbwPlaysUptoSaid : Prop := nbwPlaysUptoRow.holds Try.pinned (OpenSpec.upto nbwPlaysSpec)

/-- 'slotwrightkeep.NbwWhole', WHERE WHAT IT READS IS OF BULK AT MOST 1048576: true; the input reads as it did. -/
def nbwWholeUptoRow : OpenClaim := { program := "ytblnfffmgaiabaa", sum := "10c2c753f599319fbe1b421f5a527ccd83cf78b1edb4c5cb01e07261167b7977", func := "slotwright/slotwrightkeep.NbwWhole", spec := "nbwWhole", unfollowed := true, recurses := true, apart := false, narrowed := true }
def NbwWholeUptoSaid : Prop := nbwWholeUptoRow.holds Try.pinned (OpenSpec.upto nbwWholeSpec)

/-- 'slotwrightkeep.NbwNew', WHERE WHAT IT READS IS OF BULK AT MOST 1048576: true; the input reads as it did. -/
def nbwNewUptoRow : OpenClaim := { program := "ytblnfffmgaiabaa", sum := "10c2c753f599319fbe1b421f5a527ccd83cf78b1edb4c5cb01e07261167b7977", func := "slotwright/slotwrightkeep.NbwNew", spec := "nbwNew", unfollowed := true, recurses := true, apart := false, narrowed := true }
def NbwNewUptoSaid : Prop := nbwNewUptoRow.holds Try.pinned (OpenSpec.upto nbwNewSpec)

/-- 'slotwrightkeep.NbwCalm', WHERE WHAT IT READS IS OF BULK AT MOST 1048576: true; the input reads as it did. -/
def nbwCalmUptoRow : OpenClaim := { program := "ytblnfffmgaiabaa", sum := "10c2c753f599319fbe1b421f5a527ccd83cf78b1edb4c5cb01e07261167b7977", func := "slotwright/slotwrightkeep.NbwCalm", spec := "nbwCalm", unfollowed := true, recurses := true, apart := false, narrowed := true }
def NbwCalmUptoSaid : Prop := nbwCalmUptoRow.holds Try.pinned (OpenSpec.upto nbwCalmSpec)

/-- 'slotwrightkeep.NbwWriter', WHERE WHAT IT READS IS OF BULK AT MOST 1048576: true; the input reads as it did. -/
def nbwWriterUptoRow : OpenClaim := { program := "ytblnfffmgaiabaa", sum := "10c2c753f599319fbe1b421f5a527ccd83cf78b1edb4c5cb01e07261167b7977", func := "slotwright/slotwrightkeep.NbwWriter", spec := "nbwWriter", unfollowed := true, recurses := true, apart := false, narrowed := true }
def NbwWriterUptoSaid : Prop := nbwWriterUptoRow.holds Try.pinned (OpenSpec.upto nbwWriterSpec)

end Rows
end Go.Proofs.Ytblnfffmgaiabaa
