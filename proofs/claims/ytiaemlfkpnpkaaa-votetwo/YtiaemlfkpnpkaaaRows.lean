/-
  No cell of these rows narrows 'for every input' (looked for: loops, veiled, ifaces, maps, wideKeys, modest, calm, conditions, laid).
  DERIVED. THE GIVEN ROWS OF THIS SEAT. 7 by the template 'for every input the law returns true; each argument reads behind the call as it read before'; 0 by the template 'total and deterministic' (their statements: YtiaemlfkpnpkaaaTotals.lean).
  GIVEN WITH THE SEED: the statements are not yours to turn. If you find one false, say at which input.
  Laid BY PROGRAM, IN A SANDBOX (cutbox-rows.mjs): the forced cells as the released guide's own fill.sh prints them over the translation 2a0cee57f8b74e13… (all of the seat's roots in one cut). By AI agents, Wed Nov 11 2026. No macro, syntax, notation, axiom, sorry.
-/
import Derived.Test.YtiaemlfkpnpkaaaChecked
import GoSem.Claim
import GoSem.ClaimJoined
import GoSem.ClaimMapViews
import Derived.JoinedTies
import Derived.KernelRfl
namespace Go.Proofs.Ytiaemlfkpnpkaaa
/- THE CELL 'sum', in the pinned program and in every row, IS THE sha256 OF THE DUMP (.gsa) THAT YtiaemlfkpnpkaaaProg.lean LOADS. Nothing in Lean hashes anything: it is a label: what it is worth is what the hold of that sum in a sandbox is worth. -/
noncomputable def Try.pinned : Pinned := { name := "ytiaemlfkpnpkaaa", sum := "2a0cee57f8b74e13b0cfab103dd916dda44957ae3c781a4523ce2f4bc9754e3b", checked := Try.checked }
namespace Rows
def none {H : Type} : Left H := { results := [], args := [] }

/-- 'slotwrightlaw.VoteTwo': WHATEVER THE INPUT: true; the input reads as it did. -/
def voteTwoSpec : ChangeSpec := { name := "voteTwo", fn := fun _ => fun
  | [d1, d2, d3] => { results := [.lit (.bool true)], args := [d1, d2, d3] }
  | _ => none }
def voteTwoRow : OpenClaim := { program := "ytiaemlfkpnpkaaa", sum := "2a0cee57f8b74e13b0cfab103dd916dda44957ae3c781a4523ce2f4bc9754e3b", func := "slotwright/slotwrightlaw.VoteTwo", spec := "voteTwo", recurses := true, apart := false }
def VoteTwoSaid : Prop := voteTwoRow.holds Try.pinned (OpenSpec.ofChange voteTwoSpec)

/-- ITS FALSE NEIGHBOUR: 'it returns false'. Refute it at one input. -/
def voteTwoWrong : ChangeSpec := { name := "voteTwo", fn := fun _ => fun
  | [d1, d2, d3] => { results := [.lit (.bool false)], args := [d1, d2, d3] }
  | _ => none }
def VoteTwoWrongFalsely : Prop := voteTwoRow.holds Try.pinned (OpenSpec.ofChange voteTwoWrong)

/-- 'slotwrightlaw.VoteMost': WHATEVER THE INPUT: true; the input reads as it did. -/
def voteMostSpec : ChangeSpec := { name := "voteMost", fn := fun _ => fun
  | [d1, d2] => { results := [.lit (.bool true)], args := [d1, d2] }
  | _ => none }
def voteMostRow : OpenClaim := { program := "ytiaemlfkpnpkaaa", sum := "2a0cee57f8b74e13b0cfab103dd916dda44957ae3c781a4523ce2f4bc9754e3b", func := "slotwright/slotwrightlaw.VoteMost", spec := "voteMost", unfollowed := true, recurses := true, apart := false }
def VoteMostSaid : Prop := voteMostRow.holds Try.pinned (OpenSpec.ofChange voteMostSpec)

/-- ITS FALSE NEIGHBOUR: 'it returns false'. Refute it at one input. -/
def voteMostWrong : ChangeSpec := { name := "voteMost", fn := fun _ => fun
  | [d1, d2] => { results := [.lit (.bool false)], args := [d1, d2] }
  | _ => none }
def VoteMostWrongFalsely : Prop := voteMostRow.holds Try.pinned (OpenSpec.ofChange voteMostWrong)

/-- 'slotwrightkeep.VoteMasks': WHATEVER THE INPUT: true; the input reads as it did. -/
def voteMasksSpec : ChangeSpec := { name := "voteMasks", fn := fun _ => fun
  | [d1, d2, d3] => { results := [.lit (.bool true)], args := [d1, d2, d3] }
  | _ => none }
def voteMasksRow : OpenClaim := { program := "ytiaemlfkpnpkaaa", sum := "2a0cee57f8b74e13b0cfab103dd916dda44957ae3c781a4523ce2f4bc9754e3b", func := "slotwright/slotwrightkeep.VoteMasks", spec := "voteMasks", unfollowed := true, recurses := true, apart := false }
def VoteMasksSaid : Prop := voteMasksRow.holds Try.pinned (OpenSpec.ofChange voteMasksSpec)

/-- ITS FALSE NEIGHBOUR: 'it returns false'. Refute it at one input. -/
def voteMasksWrong : ChangeSpec := { name := "voteMasks", fn := fun _ => fun
  | [d1, d2, d3] => { results := [.lit (.bool false)], args := [d1, d2, d3] }
  | _ => none }
def VoteMasksWrongFalsely : Prop := voteMasksRow.holds Try.pinned (OpenSpec.ofChange voteMasksWrong)

/-- 'slotwrightkeep.VoteBetween': WHATEVER THE INPUT: true; the input reads as it did. -/
def voteBetweenSpec : ChangeSpec := { name := "voteBetween", fn := fun _ => fun
  | [d1, d2] => { results := [.lit (.bool true)], args := [d1, d2] }
  | _ => none }
def voteBetweenRow : OpenClaim := { program := "ytiaemlfkpnpkaaa", sum := "2a0cee57f8b74e13b0cfab103dd916dda44957ae3c781a4523ce2f4bc9754e3b", func := "slotwright/slotwrightkeep.VoteBetween", spec := "voteBetween", unfollowed := true, recurses := true, apart := false }
def VoteBetweenSaid : Prop := voteBetweenRow.holds Try.pinned (OpenSpec.ofChange voteBetweenSpec)

/-- ITS FALSE NEIGHBOUR: 'it returns false'. Refute it at one input. -/
def voteBetweenWrong : ChangeSpec := { name := "voteBetween", fn := fun _ => fun
  | [d1, d2] => { results := [.lit (.bool false)], args := [d1, d2] }
  | _ => none }
def VoteBetweenWrongFalsely : Prop := voteBetweenRow.holds Try.pinned (OpenSpec.ofChange voteBetweenWrong)

/-- 'slotwrightkeep.VoteOne': WHATEVER THE INPUT: true; the input reads as it did. -/
def voteOneSpec : ChangeSpec := { name := "voteOne", fn := fun _ => fun
  | [d1, d2] => { results := [.lit (.bool true)], args := [d1, d2] }
  | _ => none }
def voteOneRow : OpenClaim := { program := "ytiaemlfkpnpkaaa", sum := "2a0cee57f8b74e13b0cfab103dd916dda44957ae3c781a4523ce2f4bc9754e3b", func := "slotwright/slotwrightkeep.VoteOne", spec := "voteOne", unfollowed := true, recurses := true, apart := false }
def VoteOneSaid : Prop := voteOneRow.holds Try.pinned (OpenSpec.ofChange voteOneSpec)

/-- ITS FALSE NEIGHBOUR: 'it returns false'. Refute it at one input. -/
def voteOneWrong : ChangeSpec := { name := "voteOne", fn := fun _ => fun
  | [d1, d2] => { results := [.lit (.bool false)], args := [d1, d2] }
  | _ => none }
def VoteOneWrongFalsely : Prop := voteOneRow.holds Try.pinned (OpenSpec.ofChange voteOneWrong)

/-- 'slotwrightkeep.VoteNear': WHATEVER THE INPUT: true; the input reads as it did. -/
def voteNearSpec : ChangeSpec := { name := "voteNear", fn := fun _ => fun
  | [d1, d2, d3] => { results := [.lit (.bool true)], args := [d1, d2, d3] }
  | _ => none }
def voteNearRow : OpenClaim := { program := "ytiaemlfkpnpkaaa", sum := "2a0cee57f8b74e13b0cfab103dd916dda44957ae3c781a4523ce2f4bc9754e3b", func := "slotwright/slotwrightkeep.VoteNear", spec := "voteNear", unfollowed := true, recurses := true, apart := false }
def VoteNearSaid : Prop := voteNearRow.holds Try.pinned (OpenSpec.ofChange voteNearSpec)

/-- ITS FALSE NEIGHBOUR: 'it returns false'. Refute it at one input. -/
def voteNearWrong : ChangeSpec := { name := "voteNear", fn := fun _ => fun
  | [d1, d2, d3] => { results := [.lit (.bool false)], args := [d1, d2, d3] }
  | _ => none }
def VoteNearWrongFalsely : Prop := voteNearRow.holds Try.pinned (OpenSpec.ofChange voteNearWrong)

/-- 'slotwrightkeep.VoteSame': WHATEVER THE INPUT: true; the input reads as it did. -/
def voteSameSpec : ChangeSpec := { name := "voteSame", fn := fun _ => fun
  | [d1, d2] => { results := [.lit (.bool true)], args := [d1, d2] }
  | _ => none }
def voteSameRow : OpenClaim := { program := "ytiaemlfkpnpkaaa", sum := "2a0cee57f8b74e13b0cfab103dd916dda44957ae3c781a4523ce2f4bc9754e3b", func := "slotwright/slotwrightkeep.VoteSame", spec := "voteSame", unfollowed := true, recurses := true, apart := false }
def VoteSameSaid : Prop := voteSameRow.holds Try.pinned (OpenSpec.ofChange voteSameSpec)

/-- ITS FALSE NEIGHBOUR: 'it returns false'. Refute it at one input. -/
def voteSameWrong : ChangeSpec := { name := "voteSame", fn := fun _ => fun
  | [d1, d2] => { results := [.lit (.bool false)], args := [d1, d2] }
  | _ => none }
def VoteSameWrongFalsely : Prop := voteSameRow.holds Try.pinned (OpenSpec.ofChange voteSameWrong)

/- THE SECOND FORM. 'bulk': how many values and letters a reading holds, each counted each time it is reached (what is shared counts as often as it is met; a slice's spare places count too). A statement '..UptoSaid' is the law's where the arguments, and the package variables that the reading takes, are together of bulk at most 1048576: NARROWER than '..Said'. Prove '..Said' where nothing that the law and all that it calls make is longer than what came in: it says more and counts as full. Else prove '..UptoSaid'. A law counts once. -/
mutual
def uptoBulk {H : Type} : DataW H → Nat
  | .lit (.string bytes) => bytes.length + 1
  | .lit _ => 1
  | .nil => 1
  | .ptr d => uptoBulk d + 1
  | .slice elems spare => uptoBulkAll elems + uptoBulkAll spare + 1
  | .agg parts => uptoBulkAll parts + 1
  | .iface _ d => uptoBulk d + 1
  | .map entries => uptoBulkEntries entries + 1
  | .held _ => 1
def uptoBulkAll {H : Type} : List (DataW H) → Nat
  | [] => 0
  | d :: r => uptoBulk d + uptoBulkAll r
def uptoBulkEntries {H : Type} : List (Lit × DataW H) → Nat
  | [] => 0
  | x :: r => uptoBulkEntry x + uptoBulkEntries r
def uptoBulkEntry {H : Type} : Lit × DataW H → Nat
  | (.string bytes, d) => bytes.length + uptoBulk d + 1
  | (_, d) => uptoBulk d + 1
 end
def uptoSmall : (H : Type) → List (DataW H) → Bool := fun _ ds => decide (uptoBulkAll ds ≤ 1048576)
def OpenSpec.upto (s : _root_.Go.ChangeSpec) : _root_.Go.OpenSpec := { _root_.Go.OpenSpec.ofChange s with cond := some uptoSmall }

/-- 'slotwrightlaw.VoteTwo', WHERE WHAT IT READS IS OF BULK AT MOST 1048576: true; the input reads as it did. -/
def voteTwoUptoRow : OpenClaim := { program := "ytiaemlfkpnpkaaa", sum := "2a0cee57f8b74e13b0cfab103dd916dda44957ae3c781a4523ce2f4bc9754e3b", func := "slotwright/slotwrightlaw.VoteTwo", spec := "voteTwo", recurses := true, apart := false, narrowed := true }
def VoteTwoUptoSaid : Prop := voteTwoUptoRow.holds Try.pinned (OpenSpec.upto voteTwoSpec)

/-- 'slotwrightlaw.VoteMost', WHERE WHAT IT READS IS OF BULK AT MOST 1048576: true; the input reads as it did. -/
def voteMostUptoRow : OpenClaim := { program := "ytiaemlfkpnpkaaa", sum := "2a0cee57f8b74e13b0cfab103dd916dda44957ae3c781a4523ce2f4bc9754e3b", func := "slotwright/slotwrightlaw.VoteMost", spec := "voteMost", unfollowed := true, recurses := true, apart := false, narrowed := true }
def VoteMostUptoSaid : Prop := voteMostUptoRow.holds Try.pinned (OpenSpec.upto voteMostSpec)

/-- 'slotwrightkeep.VoteMasks', WHERE WHAT IT READS IS OF BULK AT MOST 1048576: true; the input reads as it did. -/
def voteMasksUptoRow : OpenClaim := { program := "ytiaemlfkpnpkaaa", sum := "2a0cee57f8b74e13b0cfab103dd916dda44957ae3c781a4523ce2f4bc9754e3b", func := "slotwright/slotwrightkeep.VoteMasks", spec := "voteMasks", unfollowed := true, recurses := true, apart := false, narrowed := true }
def VoteMasksUptoSaid : Prop := voteMasksUptoRow.holds Try.pinned (OpenSpec.upto voteMasksSpec)

/-- 'slotwrightkeep.VoteBetween', WHERE WHAT IT READS IS OF BULK AT MOST 1048576: true; the input reads as it did. -/
def voteBetweenUptoRow : OpenClaim := { program := "ytiaemlfkpnpkaaa", sum := "2a0cee57f8b74e13b0cfab103dd916dda44957ae3c781a4523ce2f4bc9754e3b", func := "slotwright/slotwrightkeep.VoteBetween", spec := "voteBetween", unfollowed := true, recurses := true, apart := false, narrowed := true }
def VoteBetweenUptoSaid : Prop := voteBetweenUptoRow.holds Try.pinned (OpenSpec.upto voteBetweenSpec)

/-- 'slotwrightkeep.VoteOne', WHERE WHAT IT READS IS OF BULK AT MOST 1048576: true; the input reads as it did. -/
def voteOneUptoRow : OpenClaim := { program := "ytiaemlfkpnpkaaa", sum := "2a0cee57f8b74e13b0cfab103dd916dda44957ae3c781a4523ce2f4bc9754e3b", func := "slotwright/slotwrightkeep.VoteOne", spec := "voteOne", unfollowed := true, recurses := true, apart := false, narrowed := true }
def VoteOneUptoSaid : Prop := voteOneUptoRow.holds Try.pinned (OpenSpec.upto voteOneSpec)

/-- 'slotwrightkeep.VoteNear', WHERE WHAT IT READS IS OF BULK AT MOST 1048576: true; the input reads as it did. -/
def voteNearUptoRow : OpenClaim := { program := "ytiaemlfkpnpkaaa", sum := "2a0cee57f8b74e13b0cfab103dd916dda44957ae3c781a4523ce2f4bc9754e3b", func := "slotwright/slotwrightkeep.VoteNear", spec := "voteNear", unfollowed := true, recurses := true, apart := false, narrowed := true }
def VoteNearUptoSaid : Prop := voteNearUptoRow.holds Try.pinned (OpenSpec.upto voteNearSpec)

/-- 'slotwrightkeep.VoteSame', WHERE WHAT IT READS IS OF BULK AT MOST 1048576: true; the input reads as it did. -/
def voteSameUptoRow : OpenClaim := { program := "ytiaemlfkpnpkaaa", sum := "2a0cee57f8b74e13b0cfab103dd916dda44957ae3c781a4523ce2f4bc9754e3b", func := "slotwright/slotwrightkeep.VoteSame", spec := "voteSame", unfollowed := true, recurses := true, apart := false, narrowed := true }
def VoteSameUptoSaid : Prop := voteSameUptoRow.holds Try.pinned (OpenSpec.upto voteSameSpec)

end Rows
end Go.Proofs.Ytiaemlfkpnpkaaa
