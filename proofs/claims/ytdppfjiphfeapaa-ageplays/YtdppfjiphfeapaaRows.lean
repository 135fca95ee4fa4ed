/-
  No cell of these rows narrows 'for every input' (looked for: loops, veiled, ifaces, maps, wideKeys, modest, calm, conditions, laid).
  DERIVED. THE GIVEN ROWS OF THIS SEAT. 5 by the template 'for every input the law returns true; each argument reads behind the call as it read before'; 0 by the template 'total and deterministic' (their statements: YtdppfjiphfeapaaTotals.lean).
  GIVEN WITH THE SEED: the statements are not yours to turn. If you find one false, say at which input.
  Laid BY PROGRAM, IN A SANDBOX (cutbox-rows.mjs): the forced cells as the released guide's own fill.sh prints them over the translation 247af173b2979456… (all of the seat's roots in one cut). By AI agents, Wed Nov 11 2026. No macro, syntax, notation, axiom, sorry.
-/
import Derived.Test.YtdppfjiphfeapaaChecked
import GoSem.Claim
import GoSem.ClaimJoined
import GoSem.ClaimMapViews
import Derived.JoinedTies
import Derived.KernelRfl
namespace Go.Proofs.Ytdppfjiphfeapaa
/- THE CELL 'sum', in the pinned program and in every row, IS THE sha256 OF THE DUMP (.gsa) THAT YtdppfjiphfeapaaProg.lean LOADS. Nothing in Lean hashes anything: it is a label: what it is worth is what the hold of that sum in a sandbox is worth. -/
noncomputable def Try.pinned : Pinned := { name := "ytdppfjiphfeapaa", sum := "247af173b297945671d42f085d022f494eca3fe173e0c0b767044b14fdaeea57", checked := Try.checked }
namespace Rows
def none {H : Type} : Left H := { results := [], args := [] }

/-- 'slotwrightlaw.AgePlays': WHATEVER THE INPUT: true; the input reads as it did. -/
def agePlaysSpec : ChangeSpec := { name := "agePlays", fn := fun _ => fun
  | [d1, d2, d3, d4] => { results := [.lit (.bool true)], args := [d1, d2, d3, d4] }
  | _ => none }
def agePlaysRow : OpenClaim := { program := "ytdppfjiphfeapaa", sum := "247af173b297945671d42f085d022f494eca3fe173e0c0b767044b14fdaeea57", func := "slotwright/slotwrightlaw.AgePlays", spec := "agePlays", apart := false }
def AgePlaysSaid : Prop := agePlaysRow.holds Try.pinned (OpenSpec.ofChange agePlaysSpec)

/-- ITS FALSE NEIGHBOUR: 'it returns false'. Refute it at one input. -/
def agePlaysWrong : ChangeSpec := { name := "agePlays", fn := fun _ => fun
  | [d1, d2, d3, d4] => { results := [.lit (.bool false)], args := [d1, d2, d3, d4] }
  | _ => none }
def AgePlaysWrongFalsely : Prop := agePlaysRow.holds Try.pinned (OpenSpec.ofChange agePlaysWrong)

/-- 'slotwrightkeep.AgeNever': WHATEVER THE INPUT: true; the input reads as it did. -/
def ageNeverSpec : ChangeSpec := { name := "ageNever", fn := fun _ => fun
  | [d1, d2] => { results := [.lit (.bool true)], args := [d1, d2] }
  | _ => none }
def ageNeverRow : OpenClaim := { program := "ytdppfjiphfeapaa", sum := "247af173b297945671d42f085d022f494eca3fe173e0c0b767044b14fdaeea57", func := "slotwright/slotwrightkeep.AgeNever", spec := "ageNever", apart := false }
def AgeNeverSaid : Prop := ageNeverRow.holds Try.pinned (OpenSpec.ofChange ageNeverSpec)

/-- ITS FALSE NEIGHBOUR: 'it returns false'. Refute it at one input. -/
def ageNeverWrong : ChangeSpec := { name := "ageNever", fn := fun _ => fun
  | [d1, d2] => { results := [.lit (.bool false)], args := [d1, d2] }
  | _ => none }
def AgeNeverWrongFalsely : Prop := ageNeverRow.holds Try.pinned (OpenSpec.ofChange ageNeverWrong)

/-- 'slotwrightkeep.AgeLasts': WHATEVER THE INPUT: true; the input reads as it did. -/
def ageLastsSpec : ChangeSpec := { name := "ageLasts", fn := fun _ => fun
  | [d1, d2, d3] => { results := [.lit (.bool true)], args := [d1, d2, d3] }
  | _ => none }
def ageLastsRow : OpenClaim := { program := "ytdppfjiphfeapaa", sum := "247af173b297945671d42f085d022f494eca3fe173e0c0b767044b14fdaeea57", func := "slotwright/slotwrightkeep.AgeLasts", spec := "ageLasts", unfollowed := true, recurses := true, apart := false }
def AgeLastsSaid : Prop := ageLastsRow.holds Try.pinned (OpenSpec.ofChange ageLastsSpec)

/-- ITS FALSE NEIGHBOUR: 'it returns false'. Refute it at one input. -/
def ageLastsWrong : ChangeSpec := { name := "ageLasts", fn := fun _ => fun
  | [d1, d2, d3] => { results := [.lit (.bool false)], args := [d1, d2, d3] }
  | _ => none }
def AgeLastsWrongFalsely : Prop := ageLastsRow.holds Try.pinned (OpenSpec.ofChange ageLastsWrong)

/-- 'slotwrightkeep.AgeMore': WHATEVER THE INPUT: true; the input reads as it did. -/
def ageMoreSpec : ChangeSpec := { name := "ageMore", fn := fun _ => fun
  | [d1, d2, d3] => { results := [.lit (.bool true)], args := [d1, d2, d3] }
  | _ => none }
def ageMoreRow : OpenClaim := { program := "ytdppfjiphfeapaa", sum := "247af173b297945671d42f085d022f494eca3fe173e0c0b767044b14fdaeea57", func := "slotwright/slotwrightkeep.AgeMore", spec := "ageMore", apart := false }
def AgeMoreSaid : Prop := ageMoreRow.holds Try.pinned (OpenSpec.ofChange ageMoreSpec)

/-- ITS FALSE NEIGHBOUR: 'it returns false'. Refute it at one input. -/
def ageMoreWrong : ChangeSpec := { name := "ageMore", fn := fun _ => fun
  | [d1, d2, d3] => { results := [.lit (.bool false)], args := [d1, d2, d3] }
  | _ => none }
def AgeMoreWrongFalsely : Prop := ageMoreRow.holds Try.pinned (OpenSpec.ofChange ageMoreWrong)

/-- 'slotwrightkeep.AgeAgain': WHATEVER THE INPUT: true; the input reads as it did. -/
def ageAgainSpec : ChangeSpec := { name := "ageAgain", fn := fun _ => fun
  | [d1, d2, d3] => { results := [.lit (.bool true)], args := [d1, d2, d3] }
  | _ => none }
def ageAgainRow : OpenClaim := { program := "ytdppfjiphfeapaa", sum := "247af173b297945671d42f085d022f494eca3fe173e0c0b767044b14fdaeea57", func := "slotwright/slotwrightkeep.AgeAgain", spec := "ageAgain", apart := false }
def AgeAgainSaid : Prop := ageAgainRow.holds Try.pinned (OpenSpec.ofChange ageAgainSpec)

/-- ITS FALSE NEIGHBOUR: 'it returns false'. Refute it at one input. -/
def ageAgainWrong : ChangeSpec := { name := "ageAgain", fn := fun _ => fun
  | [d1, d2, d3] => { results := [.lit (.bool false)], args := [d1, d2, d3] }
  | _ => none }
def AgeAgainWrongFalsely : Prop := ageAgainRow.holds Try.pinned (OpenSpec.ofChange ageAgainWrong)

/- THE SECOND FORM. 'bulk': how many values and letters a reading holds, each counted each time it is reached (what is shared counts as often as it is met; a slice's spare places count too). A statement '..UptoSaid' is the law's where the arguments, and the package variables that the reading takes, are together of bulk at most 1048576: NARROWER than '..Said'. Prove '..Said' where nothing that the law and all that it calls make is longer than what came in: it says more and counts as full. Else prove '..UptoSaid'. A law counts once. -/
mutual
def uptoBulk {H : Type} : DataW H → Nat
  | .lit (.string bytes) => bytes.length + 1
  | .lit _ => 1
  | .nil => 1
  | .ptr d => uptoBulk d + 1
  | .slice elems spare => uptoBulkAll elems + uptoBulkAll spare + 1
  | .agg parts => uptoBulkAll parts + 1
  | .iface _ d => uptoBulk d + 1
  | .map entries => uptoBulkEntries entries + 1
  | .held _ => 1
def uptoBulkAll {H : Type} : List (DataW H) → Nat
  | [] => 0
  | d :: r => uptoBulk d + uptoBulkAll r
def uptoBulkEntries {H : Type} : List (Lit × DataW H) → Nat
  | [] => 0
  | x :: r => uptoBulkEntry x + uptoBulkEntries r
def uptoBulkEntry {H : Type} : Lit × DataW H → Nat
  | (.string bytes, d) => bytes.length + uptoBulk d + 1
  | (_, d) => uptoBulk d + 1
 end
def uptoSmall : (H : Type) → List (DataW H) → Bool := fun _ ds => decide (uptoBulkAll ds ≤ 1048576)
def OpenSpec.upto (s : _root_.Go.ChangeSpec) : _root_.Go.OpenSpec := { _root_.Go.OpenSpec.ofChange s with cond := some uptoSmall }

/-- 'slotwrightlaw.AgePlays', WHERE WHAT IT READS IS OF BULK AT MOST 1048576: true; the input reads as it did. -/
def agePlaysUptoRow : OpenClaim := { program := "ytdppfjiphfeapaa", sum := "247af173b297945671d42f085d022f494eca3fe173e0c0b767044b14fdaeea57", func := "slotwright/slotwrightlaw.AgePlays", spec := "agePlays", apart := false, narrowed := true }
def AgePlaysUptoSaid : Prop := agePlaysUptoRow.holds Try.pinned (OpenSpec.upto agePlaysSpec)

/-- 'slotwrightkeep.AgeNever', WHERE WHAT IT READS IS OF BULK AT MOST 1048576: true; the input reads as it did. -/
def ageNeverUptoRow : OpenClaim := { program := "ytdppfjiphfeapaa", sum := "247af173b297945671d42f085d022f494eca3fe173e0c0b767044b14fdaeea57", func := "slotwright/slotwrightkeep.AgeNever", spec := "ageNever", apart := false, narrowed := true }
def AgeNeverUptoSaid : Prop := ageNeverUptoRow.holds Try.pinned (OpenSpec.upto ageNeverSpec)

/-- 'slotwrightkeep.AgeLasts', WHERE WHAT IT READS IS OF BULK AT MOST 1048576: true; the input reads as it did. -/
def ageLastsUptoRow : OpenClaim := { program := "ytdppfjiphfeapaa", sum := "247af173b297945671d42f085d022f494eca3fe173e0c0b767044b14fdaeea57", func := "slotwright/slotwrightkeep.AgeLasts", spec := "ageLasts", unfollowed := true, recurses := true, apart := false, narrowed := true }
def AgeLastsUptoSaid : Prop := ageLastsUptoRow.holds Try.pinned (OpenSpec.upto ageLastsSpec)

/-- 'slotwrightkeep.AgeMore', WHERE WHAT IT READS IS OF BULK AT MOST 1048576: true; the input reads as it did. -/
def ageMoreUptoRow : OpenClaim := { program := "ytdppfjiphfeapaa", sum := "247af173b297945671d42f085d022f494eca3fe173e0c0b767044b14fdaeea57", func := "slotwright/slotwrightkeep.AgeMore", spec := "ageMore", apart := false, narrowed := true }
def AgeMoreUptoSaid : Prop := ageMoreUptoRow.holds Try.pinned (OpenSpec.upto ageMoreSpec)

/-- 'slotwrightkeep.AgeAgain', WHERE WHAT IT READS IS OF BULK AT MOST 1048576: true; the input reads as it did. -/
def ageAgainUptoRow : OpenClaim := { program := "ytdppfjiphfeapaa", sum := "247af173b297945671d42f085d022f494eca3fe173e0c0b767044b14fdaeea57", func := "slotwright/slotwrightkeep.AgeAgain", spec := "ageAgain", apart := false, narrowed := true }
def AgeAgainUptoSaid : Prop := ageAgainUptoRow.holds Try.pinned (OpenSpec.upto ageAgainSpec)

end Rows
end Go.Proofs.Ytdppfjiphfeapaa
