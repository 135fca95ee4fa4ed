/-
  No cell of these rows narrows 'for every input' (looked for: loops, veiled, ifaces, maps, wideKeys, modest, calm, conditions, laid).
  DERIVED. THE GIVEN ROWS OF THIS SEAT. 5 by the template 'for every input the law returns true; each argument reads behind the call as it read before'; 0 by the template 'total and deterministic' (their statements: YtidlfbemamoflaaTotals.lean).
  GIVEN WITH THE SEED: the statements are not yours to turn. If you find one false, say at which input.
  Laid BY PROGRAM, IN A SANDBOX (cutbox-rows.mjs): the forced cells as the released guide's own fill.sh prints them over the translation 65c93f910c8b056f… (all of the seat's roots in one cut). By AI agents, Wed Nov 11 2026. No macro, syntax, notation, axiom, sorry.
-/
import Derived.Test.YtidlfbemamoflaaChecked
import GoSem.Claim
import GoSem.ClaimJoined
import GoSem.ClaimMapViews
import Derived.JoinedTies
import Derived.KernelRfl
namespace Go.Proofs.Ytidlfbemamoflaa
/- THE CELL 'sum', in the pinned program and in every row, IS THE sha256 OF THE DUMP (.gsa) THAT YtidlfbemamoflaaProg.lean LOADS. Nothing in Lean hashes anything: it is a label: what it is worth is what the hold of that sum in a sandbox is worth. -/
noncomputable def Try.pinned : Pinned := { name := "ytidlfbemamoflaa", sum := "65c93f910c8b056f17af09bca20fc06d8aaa13803876cca50f69bc57946162f1", checked := Try.checked }
namespace Rows
def none {H : Type} : Left H := { results := [], args := [] }

/-- 'slotwrightlaw.DriftShows': WHATEVER THE INPUT: true; the input reads as it did. -/
def driftShowsSpec : ChangeSpec := { name := "driftShows", fn := fun _ => fun
  | [d1, d2, d3] => { results := [.lit (.bool true)], args := [d1, d2, d3] }
  | _ => none }
def driftShowsRow : OpenClaim := { program := "ytidlfbemamoflaa", sum := "65c93f910c8b056f17af09bca20fc06d8aaa13803876cca50f69bc57946162f1", func := "slotwright/slotwrightlaw.DriftShows", spec := "driftShows", apart := false }
def DriftShowsSaid : Prop := driftShowsRow.holds Try.pinned (OpenSpec.ofChange driftShowsSpec)

/-- ITS FALSE NEIGHBOUR: 'it returns false'. Refute it at one input. -/
def driftShowsWrong : ChangeSpec := { name := "driftShows", fn := fun _ => fun
  | [d1, d2, d3] => { results := [.lit (.bool false)], args := [d1, d2, d3] }
  | _ => none }
def DriftShowsWrongFalsely : Prop := driftShowsRow.holds Try.pinned (OpenSpec.ofChange driftShowsWrong)

/-- 'slotwrightkeep.DriftNever': WHATEVER THE INPUT: true; the input reads as it did. -/
def driftNeverSpec : ChangeSpec := { name := "driftNever", fn := fun _ => fun
  | [d1, d2, d3] => { results := [.lit (.bool true)], args := [d1, d2, d3] }
  | _ => none }
def driftNeverRow : OpenClaim := { program := "ytidlfbemamoflaa", sum := "65c93f910c8b056f17af09bca20fc06d8aaa13803876cca50f69bc57946162f1", func := "slotwright/slotwrightkeep.DriftNever", spec := "driftNever", apart := false }
def DriftNeverSaid : Prop := driftNeverRow.holds Try.pinned (OpenSpec.ofChange driftNeverSpec)

/-- ITS FALSE NEIGHBOUR: 'it returns false'. Refute it at one input. -/
def driftNeverWrong : ChangeSpec := { name := "driftNever", fn := fun _ => fun
  | [d1, d2, d3] => { results := [.lit (.bool false)], args := [d1, d2, d3] }
  | _ => none }
def DriftNeverWrongFalsely : Prop := driftNeverRow.holds Try.pinned (OpenSpec.ofChange driftNeverWrong)

/-- 'slotwrightkeep.DriftWhen': WHATEVER THE INPUT: true; the input reads as it did. -/
def driftWhenSpec : ChangeSpec := { name := "driftWhen", fn := fun _ => fun
  | [d1, d2] => { results := [.lit (.bool true)], args := [d1, d2] }
  | _ => none }
def driftWhenRow : OpenClaim := { program := "ytidlfbemamoflaa", sum := "65c93f910c8b056f17af09bca20fc06d8aaa13803876cca50f69bc57946162f1", func := "slotwright/slotwrightkeep.DriftWhen", spec := "driftWhen", apart := false }
def DriftWhenSaid : Prop := driftWhenRow.holds Try.pinned (OpenSpec.ofChange driftWhenSpec)

/-- ITS FALSE NEIGHBOUR: 'it returns false'. Refute it at one input. -/
def driftWhenWrong : ChangeSpec := { name := "driftWhen", fn := fun _ => fun
  | [d1, d2] => { results := [.lit (.bool false)], args := [d1, d2] }
  | _ => none }
def DriftWhenWrongFalsely : Prop := driftWhenRow.holds Try.pinned (OpenSpec.ofChange driftWhenWrong)

/-- 'slotwrightkeep.DriftApart': WHATEVER THE INPUT: true; the input reads as it did. -/
def driftApartSpec : ChangeSpec := { name := "driftApart", fn := fun _ => fun
  | [d1, d2, d3, d4] => { results := [.lit (.bool true)], args := [d1, d2, d3, d4] }
  | _ => none }
def driftApartRow : OpenClaim := { program := "ytidlfbemamoflaa", sum := "65c93f910c8b056f17af09bca20fc06d8aaa13803876cca50f69bc57946162f1", func := "slotwright/slotwrightkeep.DriftApart", spec := "driftApart", apart := false }
def DriftApartSaid : Prop := driftApartRow.holds Try.pinned (OpenSpec.ofChange driftApartSpec)

/-- ITS FALSE NEIGHBOUR: 'it returns false'. Refute it at one input. -/
def driftApartWrong : ChangeSpec := { name := "driftApart", fn := fun _ => fun
  | [d1, d2, d3, d4] => { results := [.lit (.bool false)], args := [d1, d2, d3, d4] }
  | _ => none }
def DriftApartWrongFalsely : Prop := driftApartRow.holds Try.pinned (OpenSpec.ofChange driftApartWrong)

/-- 'slotwrightkeep.DriftTrue': WHATEVER THE INPUT: true; the input reads as it did. -/
def driftTrueSpec : ChangeSpec := { name := "driftTrue", fn := fun _ => fun
  | [d1, d2] => { results := [.lit (.bool true)], args := [d1, d2] }
  | _ => none }
def driftTrueRow : OpenClaim := { program := "ytidlfbemamoflaa", sum := "65c93f910c8b056f17af09bca20fc06d8aaa13803876cca50f69bc57946162f1", func := "slotwright/slotwrightkeep.DriftTrue", spec := "driftTrue", apart := false }
def DriftTrueSaid : Prop := driftTrueRow.holds Try.pinned (OpenSpec.ofChange driftTrueSpec)

/-- ITS FALSE NEIGHBOUR: 'it returns false'. Refute it at one input. -/
def driftTrueWrong : ChangeSpec := { name := "driftTrue", fn := fun _ => fun
  | [d1, d2] => { results := [.lit (.bool false)], args := [d1, d2] }
  | _ => none }
def DriftTrueWrongFalsely : Prop := driftTrueRow.holds Try.pinned (OpenSpec.ofChange driftTrueWrong)

/- THE SECOND FORM. 'bulk': how many values and letters a reading holds, each counted each time it is reached (what is shared counts as often as it is met; a slice's spare places count too). A statement '..UptoSaid' is the law's where the arguments, and the package variables that the reading takes, are together of bulk at most 1048576: NARROWER than '..Said'. Prove '..Said' where nothing that the law and all that it calls make is longer than what came in: it says more and counts as full. Else prove '..UptoSaid'. A law counts once. -/
mutual
def uptoBulk {H : Type} : DataW H → Nat
  | .lit (.string bytes) => bytes.length + 1
  | .lit _ => 1
  | .nil => 1
  | .ptr d => uptoBulk d + 1
  | .slice elems spare => uptoBulkAll elems + uptoBulkAll spare + 1
  | .agg parts => uptoBulkAll parts + 1
  | .iface _ d => uptoBulk d + 1
  | .map entries => uptoBulkEntries entries + 1
  | .held _ => 1
def uptoBulkAll {H : Type} : List (DataW H) → Nat
  | [] => 0
  | d :: r => uptoBulk d + uptoBulkAll r
def uptoBulkEntries {H : Type} : List (Lit × DataW H) → Nat
  | [] => 0
  | x :: r => uptoBulkEntry x + uptoBulkEntries r
def uptoBulkEntry {H : Type} : Lit × DataW H → Nat
  | (.string bytes, d) => bytes.length + uptoBulk d + 1
  | (_, d) => uptoBulk d + 1
 end
def uptoSmall : (H : Type) → List (DataW H) → Bool := fun _ ds => decide (uptoBulkAll ds ≤ 1048576)
def OpenSpec.upto (s : _root_.Go.ChangeSpec) : _root_.Go.OpenSpec := { _root_.Go.OpenSpec.ofChange s with cond := some uptoSmall }

/-- 'slotwrightlaw.DriftShows', WHERE WHAT IT READS IS OF BULK AT MOST 1048576: true; the input reads as it did. -/
def driftShowsUptoRow : OpenClaim := { program := "ytidlfbemamoflaa", sum := "65c93f910c8b056f17af09bca20fc06d8aaa13803876cca50f69bc57946162f1", func := "slotwright/slotwrightlaw.DriftShows", spec := "driftShows", apart := false, narrowed := true }
def DriftShowsUptoSaid : Prop := driftShowsUptoRow.holds Try.pinned (OpenSpec.upto driftShowsSpec)

/-- 'slotwrightkeep.DriftNever', WHERE WHAT IT READS IS OF BULK AT MOST 1048576: true; the input reads as it did. -/
def driftNeverUptoRow : OpenClaim := { program := "ytidlfbemamoflaa", sum := "65c93f910c8b056f17af09bca20fc06d8aaa13803876cca50f69bc57946162f1", func := "slotwright/slotwrightkeep.DriftNever", spec := "driftNever", apart := false, narrowed := true }
def DriftNeverUptoSaid : Prop := driftNeverUptoRow.holds Try.pinned (OpenSpec.upto driftNeverSpec)

/-- 'slotwrightkeep.DriftWhen', WHERE WHAT IT READS IS OF BULK AT MOST 1048576: true; the input reads as it did. -/
def driftWhenUptoRow : OpenClaim := { program := "ytidlfbemamoflaa", sum := "65c93f910c8b056f17af09bca20fc06d8aaa13803876cca50f69bc57946162f1", func := "slotwright/slotwrightkeep.DriftWhen", spec := "driftWhen", apart := false, narrowed := true }
def DriftWhenUptoSaid : Prop := driftWhenUptoRow.holds Try.pinned (OpenSpec.upto driftWhenSpec)

/-- 'slotwrightkeep.DriftApart', WHERE WHAT IT READS IS OF BULK AT MOST 1048576: true; the input reads as it did. -/
def driftApartUptoRow : OpenClaim := { program := "ytidlfbemamoflaa", sum := "65c93f910c8b056f17af09bca20fc06d8aaa13803876cca50f69bc57946162f1", func := "slotwright/slotwrightkeep.DriftApart", spec := "driftApart", apart := false, narrowed := true }
def DriftApartUptoSaid : Prop := driftApartUptoRow.holds Try.pinned (OpenSpec.upto driftApartSpec)

/-- 'slotwrightkeep.DriftTrue', WHERE WHAT IT READS IS OF BULK AT MOST 1048576: true; the input reads as it did. -/
def driftTrueUptoRow : OpenClaim := { program := "ytidlfbemamoflaa", sum := "65c93f910c8b056f17af09bca20fc06d8aaa13803876cca50f69bc57946162f1", func := "slotwright/slotwrightkeep.DriftTrue", spec := "driftTrue", apart := false, narrowed := true }
def DriftTrueUptoSaid : Prop := driftTrueUptoRow.holds Try.pinned (OpenSpec.upto driftTrueSpec)

end Rows
end Go.Proofs.Ytidlfbemamoflaa
