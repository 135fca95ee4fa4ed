/-
  No cell of these rows narrows 'for every input' (looked for: loops, veiled, ifaces, maps, wideKeys, modest, calm, conditions, laid).
  DERIVED. THE GIVEN ROWS OF THIS SEAT. 7 by the template 'for every input the law returns true; each argument reads behind the call as it read before'; 0 by the template 'total and deterministic' (their statements: YtnmoddknghcobaaTotals.lean).
  GIVEN WITH THE SEED: the statements are not yours to turn. If you find one false, say at which input.
  Laid BY PROGRAM, IN A SANDBOX (cutbox-rows.mjs): the forced cells as the released guide's own fill.sh prints them over the translation 242a300279fc095e… (all of the seat's roots in one cut). By AI agents, Wed Nov 11 2026. No macro, syntax, notation, axiom, sorry.
-/
import Derived.Test.YtnmoddknghcobaaChecked
import GoSem.Claim
import GoSem.ClaimJoined
import GoSem.ClaimMapViews
import Derived.JoinedTies
import Derived.KernelRfl
namespace Go.Proofs.Ytnmoddknghcobaa
/- THE CELL 'sum', in the pinned program and in every row, IS THE sha256 OF THE DUMP (.gsa) THAT YtnmoddknghcobaaProg.lean LOADS. Nothing in Lean hashes anything: it is a label: what it is worth is what the hold of that sum in a sandbox is worth. -/
noncomputable def Try.pinned : Pinned := { name := "ytnmoddknghcobaa", sum := "242a300279fc095e22c205f740ea78b5ed90d9c9181911524a3ed610ad3890a8", checked := Try.checked }
namespace Rows
def none {H : Type} : Left H := { results := [], args := [] }

/-- 'slotwrightlaw.MemberSteps': WHATEVER THE INPUT: true; the input reads as it did. -/
def memberStepsSpec : ChangeSpec := { name := "memberSteps", fn := fun _ => fun
  | [d1, d2, d3, d4, d5] => { results := [.lit (.bool true)], args := [d1, d2, d3, d4, d5] }
  | _ => none }
def memberStepsRow : OpenClaim := { program := "ytnmoddknghcobaa", sum := "242a300279fc095e22c205f740ea78b5ed90d9c9181911524a3ed610ad3890a8", func := "slotwright/slotwrightlaw.MemberSteps", spec := "memberSteps", unfollowed := true, recurses := true, apart := false }
def MemberStepsSaid : Prop := memberStepsRow.holds Try.pinned (OpenSpec.ofChange memberStepsSpec)

/-- ITS FALSE NEIGHBOUR: 'it returns false'. Refute it at one input. -/
def memberStepsWrong : ChangeSpec := { name := "memberSteps", fn := fun _ => fun
  | [d1, d2, d3, d4, d5] => { results := [.lit (.bool false)], args := [d1, d2, d3, d4, d5] }
  | _ => none }
def MemberStepsWrongFalsely : Prop := memberStepsRow.holds Try.pinned (OpenSpec.ofChange memberStepsWrong)

/-- 'slotwrightlaw.MemberRounds': WHATEVER THE INPUT: true; the input reads as it did. -/
def memberRoundsSpec : ChangeSpec := { name := "memberRounds", fn := fun _ => fun
  | [d1, d2] => { results := [.lit (.bool true)], args := [d1, d2] }
  | _ => none }
def memberRoundsRow : OpenClaim := { program := "ytnmoddknghcobaa", sum := "242a300279fc095e22c205f740ea78b5ed90d9c9181911524a3ed610ad3890a8", func := "slotwright/slotwrightlaw.MemberRounds", spec := "memberRounds", unfollowed := true, recurses := true, apart := false }
def MemberRoundsSaid : Prop := memberRoundsRow.holds Try.pinned (OpenSpec.ofChange memberRoundsSpec)

/-- ITS FALSE NEIGHBOUR: 'it returns false'. Refute it at one input. -/
def memberRoundsWrong : ChangeSpec := { name := "memberRounds", fn := fun _ => fun
  | [d1, d2] => { results := [.lit (.bool false)], args := [d1, d2] }
  | _ => none }
def MemberRoundsWrongFalsely : Prop := memberRoundsRow.holds Try.pinned (OpenSpec.ofChange memberRoundsWrong)

/-- 'slotwrightkeep.MemberLike': WHATEVER THE INPUT: true; the input reads as it did. -/
def memberLikeSpec : ChangeSpec := { name := "memberLike", fn := fun _ => fun
  | [d1, d2] => { results := [.lit (.bool true)], args := [d1, d2] }
  | _ => none }
def memberLikeRow : OpenClaim := { program := "ytnmoddknghcobaa", sum := "242a300279fc095e22c205f740ea78b5ed90d9c9181911524a3ed610ad3890a8", func := "slotwright/slotwrightkeep.MemberLike", spec := "memberLike", apart := false }
def MemberLikeSaid : Prop := memberLikeRow.holds Try.pinned (OpenSpec.ofChange memberLikeSpec)

/-- ITS FALSE NEIGHBOUR: 'it returns false'. Refute it at one input. -/
def memberLikeWrong : ChangeSpec := { name := "memberLike", fn := fun _ => fun
  | [d1, d2] => { results := [.lit (.bool false)], args := [d1, d2] }
  | _ => none }
def MemberLikeWrongFalsely : Prop := memberLikeRow.holds Try.pinned (OpenSpec.ofChange memberLikeWrong)

/-- 'slotwrightkeep.MemberQuiet': WHATEVER THE INPUT: true; the input reads as it did. -/
def memberQuietSpec : ChangeSpec := { name := "memberQuiet", fn := fun _ => fun
  | [d1, d2] => { results := [.lit (.bool true)], args := [d1, d2] }
  | _ => none }
def memberQuietRow : OpenClaim := { program := "ytnmoddknghcobaa", sum := "242a300279fc095e22c205f740ea78b5ed90d9c9181911524a3ed610ad3890a8", func := "slotwright/slotwrightkeep.MemberQuiet", spec := "memberQuiet", apart := false }
def MemberQuietSaid : Prop := memberQuietRow.holds Try.pinned (OpenSpec.ofChange memberQuietSpec)

/-- ITS FALSE NEIGHBOUR: 'it returns false'. Refute it at one input. -/
def memberQuietWrong : ChangeSpec := { name := "memberQuiet", fn := fun _ => fun
  | [d1, d2] => { results := [.lit (.bool false)], args := [d1, d2] }
  | _ => none }
def MemberQuietWrongFalsely : Prop := memberQuietRow.holds Try.pinned (OpenSpec.ofChange memberQuietWrong)

/-- 'slotwrightkeep.MemberDead': WHATEVER THE INPUT: true; the input reads as it did. -/
def memberDeadSpec : ChangeSpec := { name := "memberDead", fn := fun _ => fun
  | [d1, d2, d3] => { results := [.lit (.bool true)], args := [d1, d2, d3] }
  | _ => none }
def memberDeadRow : OpenClaim := { program := "ytnmoddknghcobaa", sum := "242a300279fc095e22c205f740ea78b5ed90d9c9181911524a3ed610ad3890a8", func := "slotwright/slotwrightkeep.MemberDead", spec := "memberDead", apart := false }
def MemberDeadSaid : Prop := memberDeadRow.holds Try.pinned (OpenSpec.ofChange memberDeadSpec)

/-- ITS FALSE NEIGHBOUR: 'it returns false'. Refute it at one input. -/
def memberDeadWrong : ChangeSpec := { name := "memberDead", fn := fun _ => fun
  | [d1, d2, d3] => { results := [.lit (.bool false)], args := [d1, d2, d3] }
  | _ => none }
def MemberDeadWrongFalsely : Prop := memberDeadRow.holds Try.pinned (OpenSpec.ofChange memberDeadWrong)

/-- 'slotwrightkeep.MemberParts': WHATEVER THE INPUT: true; the input reads as it did. -/
def memberPartsSpec : ChangeSpec := { name := "memberParts", fn := fun _ => fun
  | [d1, d2] => { results := [.lit (.bool true)], args := [d1, d2] }
  | _ => none }
def memberPartsRow : OpenClaim := { program := "ytnmoddknghcobaa", sum := "242a300279fc095e22c205f740ea78b5ed90d9c9181911524a3ed610ad3890a8", func := "slotwright/slotwrightkeep.MemberParts", spec := "memberParts", apart := false }
def MemberPartsSaid : Prop := memberPartsRow.holds Try.pinned (OpenSpec.ofChange memberPartsSpec)

/-- ITS FALSE NEIGHBOUR: 'it returns false'. Refute it at one input. -/
def memberPartsWrong : ChangeSpec := { name := "memberParts", fn := fun _ => fun
  | [d1, d2] => { results := [.lit (.bool false)], args := [d1, d2] }
  | _ => none }
def MemberPartsWrongFalsely : Prop := memberPartsRow.holds Try.pinned (OpenSpec.ofChange memberPartsWrong)

/-- 'slotwrightkeep.MemberOut': WHATEVER THE INPUT: true; the input reads as it did. -/
def memberOutSpec : ChangeSpec := { name := "memberOut", fn := fun _ => fun
  | [d1, d2, d3] => { results := [.lit (.bool true)], args := [d1, d2, d3] }
  | _ => none }
def memberOutRow : OpenClaim := { program := "ytnmoddknghcobaa", sum := "242a300279fc095e22c205f740ea78b5ed90d9c9181911524a3ed610ad3890a8", func := "slotwright/slotwrightkeep.MemberOut", spec := "memberOut", apart := false }
def MemberOutSaid : Prop := memberOutRow.holds Try.pinned (OpenSpec.ofChange memberOutSpec)

/-- ITS FALSE NEIGHBOUR: 'it returns false'. Refute it at one input. -/
def memberOutWrong : ChangeSpec := { name := "memberOut", fn := fun _ => fun
  | [d1, d2, d3] => { results := [.lit (.bool false)], args := [d1, d2, d3] }
  | _ => none }
def MemberOutWrongFalsely : Prop := memberOutRow.holds Try.pinned (OpenSpec.ofChange memberOutWrong)

/- THE SECOND FORM. 'bulk': how many values and letters a reading holds, each counted each time it is reached (what is shared counts as often as it is met; a slice's spare places count too). A statement '..UptoSaid' is the law's where the arguments, and the package variables that the reading takes, are together of bulk at most 1048576: NARROWER than '..Said'. Prove '..Said' where nothing that the law and all that it calls make is longer than what came in: it says more and counts as full. Else prove '..UptoSaid'. A law counts once. -/
mutual
def uptoBulk {H : Type} : DataW H → Nat
  | .lit (.string bytes) => bytes.length + 1
  | .lit _ => 1
  | .nil => 1
  | .ptr d => uptoBulk d + 1
  | .slice elems spare => uptoBulkAll elems + uptoBulkAll spare + 1
  | .agg parts => uptoBulkAll parts + 1
  | .iface _ d => uptoBulk d + 1
  | .map entries => uptoBulkEntries entries + 1
  | .held _ => 1
def uptoBulkAll {H : Type} : List (DataW H) → Nat
  | [] => 0
  | d :: r => uptoBulk d + uptoBulkAll r
def uptoBulkEntries {H : Type} : List (Lit × DataW H) → Nat
  | [] => 0
  | x :: r => uptoBulkEntry x + uptoBulkEntries r
def uptoBulkEntry {H : Type} : Lit × DataW H → Nat
  | (.string bytes, d) => bytes.length + uptoBulk d + 1
  | (_, d) => uptoBulk d + 1
 end
def uptoSmall : (H : Type) → List (DataW H) → Bool := fun _ ds => decide (uptoBulkAll ds ≤ 1048576)
def OpenSpec.upto (s : _root_.Go.ChangeSpec) : _root_.Go.OpenSpec := { _root_.Go.OpenSpec.ofChange s with cond := some uptoSmall }

/-- 'slotwrightlaw.MemberSteps', WHERE WHAT IT READS IS OF BULK AT MOST 1048576: true; the input reads as it did. -/
def memberStepsUptoRow : OpenClaim := { program := "ytnmoddknghcobaa", sum := "242a300279fc095e22c205f740ea78b5ed90d9c9181911524a3ed610ad3890a8", func := "slotwright/slotwrightlaw.MemberSteps", spec := "memberSteps", unfollowed := true, recurses := true, apart := false, narrowed := true }
def MemberStepsUptoSaid : Prop := memberStepsUptoRow.holds Try.pinned (OpenSpec.upto memberStepsSpec)

/-- 'slotwrightlaw.MemberRounds', WHERE WHAT IT READS IS OF BULK AT MOST 1048576: true; the input reads as it did. -/
def memberRoundsUptoRow : OpenClaim := { program := "ytnmoddknghcobaa", sum := "242a300279fc095e22c205f740ea78b5ed90d9c9181911524a3ed610ad3890a8", func := "slotwright/slotwrightlaw.MemberRounds", spec := "memberRounds", unfollowed := true, recurses := true, apart := false, narrowed := true }
def MemberRoundsUptoSaid : Prop := memberRoundsUptoRow.holds Try.pinned (OpenSpec.upto memberRoundsSpec)

/-- 'slotwrightkeep.MemberLike', WHERE WHAT IT READS IS OF BULK AT MOST 1048576: true; the input reads as it did. -/
def memberLikeUptoRow : OpenClaim := { program := "ytnmoddknghcobaa", sum := "242a300279fc095e22c205f740ea78b5ed90d9c9181911524a3ed610ad3890a8", func := "slotwright/slotwrightkeep.MemberLike", spec := "memberLike", apart := false, narrowed := true }
def MemberLikeUptoSaid : Prop := memberLikeUptoRow.holds Try.pinned (OpenSpec.upto memberLikeSpec)

/-- 'slotwrightkeep.MemberQuiet', WHERE WHAT IT READS IS OF BULK AT MOST 1048576: true; the input reads as it did. -/
def memberQuietUptoRow : OpenClaim := { program := "ytnmoddknghcobaa", sum := "242a300279fc095e22c205f740ea78b5ed90d9c9181911524a3ed610ad3890a8", func := "slotwright/slotwrightkeep.MemberQuiet", spec := "memberQuiet", apart := false, narrowed := true }
def MemberQuietUptoSaid : Prop := memberQuietUptoRow.holds Try.pinned (OpenSpec.upto memberQuietSpec)

/-- 'slotwrightkeep.MemberDead', WHERE WHAT IT READS IS OF BULK AT MOST 1048576: true; the input reads as it did. -/
def memberDeadUptoRow : OpenClaim := { program := "ytnmoddknghcobaa", sum := "242a300279fc095e22c205f740ea78b5ed90d9c9181911524a3ed610ad3890a8", func := "slotwright/slotwrightkeep.MemberDead", spec := "memberDead", apart := false, narrowed := true }
def MemberDeadUptoSaid : Prop := memberDeadUptoRow.holds Try.pinned (OpenSpec.upto memberDeadSpec)

/-- 'slotwrightkeep.MemberParts', WHERE WHAT IT READS IS OF BULK AT MOST 1048576: true; the input reads as it did. -/
def memberPartsUptoRow : OpenClaim := { program := "ytnmoddknghcobaa", sum := "242a300279fc095e22c205f740ea78b5ed90d9c9181911524a3ed610ad3890a8", func := "slotwright/slotwrightkeep.MemberParts", spec := "memberParts", apart := false, narrowed := true }
def MemberPartsUptoSaid : Prop := memberPartsUptoRow.holds Try.pinned (OpenSpec.upto memberPartsSpec)

/-- 'slotwrightkeep.MemberOut', WHERE WHAT IT READS IS OF BULK AT MOST 1048576: true; the input reads as it did. -/
def memberOutUptoRow : OpenClaim := { program := "ytnmoddknghcobaa", sum := "242a300279fc095e22c205f740ea78b5ed90d9c9181911524a3ed610ad3890a8", func := "slotwright/slotwrightkeep.MemberOut", spec := "memberOut", apart := false, narrowed := true }
def MemberOutUptoSaid : Prop := memberOutUptoRow.holds Try.pinned (OpenSpec.upto memberOutSpec)

end Rows
end Go.Proofs.Ytnmoddknghcobaa
