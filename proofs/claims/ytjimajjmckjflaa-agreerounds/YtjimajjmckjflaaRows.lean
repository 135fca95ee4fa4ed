/-
  No cell of these rows narrows 'for every input' (looked for: loops, veiled, ifaces, maps, wideKeys, modest, calm, conditions, laid).
  DERIVED. THE GIVEN ROWS OF THIS SEAT. 5 by the template 'for every input the law returns true; each argument reads behind the call as it read before'; 0 by the template 'total and deterministic' (their statements: YtjimajjmckjflaaTotals.lean).
  GIVEN WITH THE SEED: the statements are not yours to turn. If you find one false, say at which input.
  Laid BY PROGRAM, IN A SANDBOX (cutbox-rows.mjs): the forced cells as the released guide's own fill.sh prints them over the translation fa71c657e7505190… (all of the seat's roots in one cut). By AI agents, Wed Nov 11 2026. No macro, syntax, notation, axiom, sorry.
-/
import Derived.Test.YtjimajjmckjflaaChecked
import GoSem.Claim
import GoSem.ClaimJoined
import GoSem.ClaimMapViews
import Derived.JoinedTies
import Derived.KernelRfl
namespace Go.Proofs.Ytjimajjmckjflaa
/- THE CELL 'sum', in the pinned program and in every row, IS THE sha256 OF THE DUMP (.gsa) THAT YtjimajjmckjflaaProg.lean LOADS. Nothing in Lean hashes anything: it is a label: what it is worth is what the hold of that sum in a sandbox is worth. -/
noncomputable def Try.pinned : Pinned := { name := "ytjimajjmckjflaa", sum := "fa71c657e75051901d2bb94627578eca7e4cb26ce104d8157e0d6700f5eff9f7", checked := Try.checked }
namespace Rows
def none {H : Type} : Left H := { results := [], args := [] }

/-- 'slotwrightlaw.AgreeRounds': WHATEVER THE INPUT: true; the input reads as it did. -/
def agreeRoundsSpec : ChangeSpec := { name := "agreeRounds", fn := fun _ => fun
  | [d1, d2, d3, d4] => { results := [.lit (.bool true)], args := [d1, d2, d3, d4] }
  | _ => none }
def agreeRoundsRow : OpenClaim := { program := "ytjimajjmckjflaa", sum := "fa71c657e75051901d2bb94627578eca7e4cb26ce104d8157e0d6700f5eff9f7", func := "slotwright/slotwrightlaw.AgreeRounds", spec := "agreeRounds", unfollowed := true, recurses := true, apart := false }
def AgreeRoundsSaid : Prop := agreeRoundsRow.holds Try.pinned (OpenSpec.ofChange agreeRoundsSpec)

/-- ITS FALSE NEIGHBOUR: 'it returns false'. Refute it at one input. -/
def agreeRoundsWrong : ChangeSpec := { name := "agreeRounds", fn := fun _ => fun
  | [d1, d2, d3, d4] => { results := [.lit (.bool false)], args := [d1, d2, d3, d4] }
  | _ => none }
def AgreeRoundsWrongFalsely : Prop := agreeRoundsRow.holds Try.pinned (OpenSpec.ofChange agreeRoundsWrong)

/-- 'slotwrightkeep.AgreeNearer': WHATEVER THE INPUT: true; the input reads as it did. -/
def agreeNearerSpec : ChangeSpec := { name := "agreeNearer", fn := fun _ => fun
  | [d1, d2, d3] => { results := [.lit (.bool true)], args := [d1, d2, d3] }
  | _ => none }
def agreeNearerRow : OpenClaim := { program := "ytjimajjmckjflaa", sum := "fa71c657e75051901d2bb94627578eca7e4cb26ce104d8157e0d6700f5eff9f7", func := "slotwright/slotwrightkeep.AgreeNearer", spec := "agreeNearer", recurses := true, apart := false }
def AgreeNearerSaid : Prop := agreeNearerRow.holds Try.pinned (OpenSpec.ofChange agreeNearerSpec)

/-- ITS FALSE NEIGHBOUR: 'it returns false'. Refute it at one input. -/
def agreeNearerWrong : ChangeSpec := { name := "agreeNearer", fn := fun _ => fun
  | [d1, d2, d3] => { results := [.lit (.bool false)], args := [d1, d2, d3] }
  | _ => none }
def AgreeNearerWrongFalsely : Prop := agreeNearerRow.holds Try.pinned (OpenSpec.ofChange agreeNearerWrong)

/-- 'slotwrightkeep.AgreeWithin': WHATEVER THE INPUT: true; the input reads as it did. -/
def agreeWithinSpec : ChangeSpec := { name := "agreeWithin", fn := fun _ => fun
  | [d1, d2, d3, d4] => { results := [.lit (.bool true)], args := [d1, d2, d3, d4] }
  | _ => none }
def agreeWithinRow : OpenClaim := { program := "ytjimajjmckjflaa", sum := "fa71c657e75051901d2bb94627578eca7e4cb26ce104d8157e0d6700f5eff9f7", func := "slotwright/slotwrightkeep.AgreeWithin", spec := "agreeWithin", recurses := true, apart := false }
def AgreeWithinSaid : Prop := agreeWithinRow.holds Try.pinned (OpenSpec.ofChange agreeWithinSpec)

/-- ITS FALSE NEIGHBOUR: 'it returns false'. Refute it at one input. -/
def agreeWithinWrong : ChangeSpec := { name := "agreeWithin", fn := fun _ => fun
  | [d1, d2, d3, d4] => { results := [.lit (.bool false)], args := [d1, d2, d3, d4] }
  | _ => none }
def AgreeWithinWrongFalsely : Prop := agreeWithinRow.holds Try.pinned (OpenSpec.ofChange agreeWithinWrong)

/-- 'slotwrightkeep.AgreeSoon': WHATEVER THE INPUT: true; the input reads as it did. -/
def agreeSoonSpec : ChangeSpec := { name := "agreeSoon", fn := fun _ => fun
  | [d1, d2, d3] => { results := [.lit (.bool true)], args := [d1, d2, d3] }
  | _ => none }
def agreeSoonRow : OpenClaim := { program := "ytjimajjmckjflaa", sum := "fa71c657e75051901d2bb94627578eca7e4cb26ce104d8157e0d6700f5eff9f7", func := "slotwright/slotwrightkeep.AgreeSoon", spec := "agreeSoon", recurses := true, apart := false }
def AgreeSoonSaid : Prop := agreeSoonRow.holds Try.pinned (OpenSpec.ofChange agreeSoonSpec)

/-- ITS FALSE NEIGHBOUR: 'it returns false'. Refute it at one input. -/
def agreeSoonWrong : ChangeSpec := { name := "agreeSoon", fn := fun _ => fun
  | [d1, d2, d3] => { results := [.lit (.bool false)], args := [d1, d2, d3] }
  | _ => none }
def AgreeSoonWrongFalsely : Prop := agreeSoonRow.holds Try.pinned (OpenSpec.ofChange agreeSoonWrong)

/-- 'slotwrightkeep.AgreeTrue': WHATEVER THE INPUT: true; the input reads as it did. -/
def agreeTrueSpec : ChangeSpec := { name := "agreeTrue", fn := fun _ => fun
  | [d] => { results := [.lit (.bool true)], args := [d] }
  | _ => none }
def agreeTrueRow : OpenClaim := { program := "ytjimajjmckjflaa", sum := "fa71c657e75051901d2bb94627578eca7e4cb26ce104d8157e0d6700f5eff9f7", func := "slotwright/slotwrightkeep.AgreeTrue", spec := "agreeTrue", recurses := true, apart := false }
def AgreeTrueSaid : Prop := agreeTrueRow.holds Try.pinned (OpenSpec.ofChange agreeTrueSpec)

/-- ITS FALSE NEIGHBOUR: 'it returns false'. Refute it at one input. -/
def agreeTrueWrong : ChangeSpec := { name := "agreeTrue", fn := fun _ => fun
  | [d] => { results := [.lit (.bool false)], args := [d] }
  | _ => none }
def AgreeTrueWrongFalsely : Prop := agreeTrueRow.holds Try.pinned (OpenSpec.ofChange agreeTrueWrong)

/- THE SECOND FORM. 'bulk': how many values and letters a reading holds, each counted each time it is reached (what is shared counts as often as it is met; a slice's spare places count too). A statement '..UptoSaid' is the law's where the arguments, and the package variables that the reading takes, are together of bulk at most 1048576: NARROWER than '..Said'. Prove '..Said' where nothing that the law and all that it calls make is longer than what came in: it says more and counts as full. Else prove '..UptoSaid'. A law counts once. -/
mutual
def uptoBulk {H : Type} : DataW H → Nat
  | .lit (.string bytes) => bytes.length + 1
  | .lit _ => 1
  | .nil => 1
  | .ptr d => uptoBulk d + 1
  | .slice elems spare => uptoBulkAll elems + uptoBulkAll spare + 1
  | .agg parts => uptoBulkAll parts + 1
  | .iface _ d => uptoBulk d + 1
  | .map entries => uptoBulkEntries entries + 1
  | .held _ => 1
def uptoBulkAll {H : Type} : List (DataW H) → Nat
  | [] => 0
  | d :: r => uptoBulk d + uptoBulkAll r
def uptoBulkEntries {H : Type} : List (Lit × DataW H) → Nat
  | [] => 0
  | x :: r => uptoBulkEntry x + uptoBulkEntries r
def uptoBulkEntry {H : Type} : Lit × DataW H → Nat
  | (.string bytes, d) => bytes.length + uptoBulk d + 1
  | (_, d) => uptoBulk d + 1
 end
def uptoSmall : (H : Type) → List (DataW H) → Bool := fun _ ds => decide (uptoBulkAll ds ≤ 1048576)
def OpenSpec.upto (s : _root_.Go.ChangeSpec) : _root_.Go.OpenSpec := { _root_.Go.OpenSpec.ofChange s with cond := some uptoSmall }

/-- 'slotwrightlaw.AgreeRounds', WHERE WHAT IT READS IS OF BULK AT MOST 1048576: true; the input reads as it did. -/
def agreeRoundsUptoRow : OpenClaim := { program := "ytjimajjmckjflaa", sum := "fa71c657e75051901d2bb94627578eca7e4cb26ce104d8157e0d6700f5eff9f7", func := "slotwright/slotwrightlaw.AgreeRounds", spec := "agreeRounds", unfollowed := true, recurses := true, apart := false, narrowed := true }
def AgreeRoundsUptoSaid : Prop := agreeRoundsUptoRow.holds Try.pinned (OpenSpec.upto agreeRoundsSpec)

/-- 'slotwrightkeep.AgreeNearer', WHERE WHAT IT READS IS OF BULK AT MOST 1048576: true; the input reads as it did. -/
def agreeNearerUptoRow : OpenClaim := { program := "ytjimajjmckjflaa", sum := "fa71c657e75051901d2bb94627578eca7e4cb26ce104d8157e0d6700f5eff9f7", func := "slotwright/slotwrightkeep.AgreeNearer", spec := "agreeNearer", recurses := true, apart := false, narrowed := true }
def AgreeNearerUptoSaid : Prop := agreeNearerUptoRow.holds Try.pinned (OpenSpec.upto agreeNearerSpec)

/-- 'slotwrightkeep.AgreeWithin', WHERE WHAT IT READS IS OF BULK AT MOST 1048576: true; the input reads as it did. -/
def agreeWithinUptoRow : OpenClaim := { program := "ytjimajjmckjflaa", sum := "fa71c657e75051901d2bb94627578eca7e4cb26ce104d8157e0d6700f5eff9f7", func := "slotwright/slotwrightkeep.AgreeWithin", spec := "agreeWithin", recurses := true, apart := false, narrowed := true }
def AgreeWithinUptoSaid : Prop := agreeWithinUptoRow.holds Try.pinned (OpenSpec.upto agreeWithinSpec)

/-- 'slotwrightkeep.AgreeSoon', WHERE WHAT IT READS IS OF BULK AT MOST 1048576: true; the input reads as it did. -/
def agreeSoonUptoRow : OpenClaim := { program := "ytjimajjmckjflaa", sum := "fa71c657e75051901d2bb94627578eca7e4cb26ce104d8157e0d6700f5eff9f7", func := "slotwright/slotwrightkeep.AgreeSoon", spec := "agreeSoon", recurses := true, apart := false, narrowed := true }
def AgreeSoonUptoSaid : Prop := agreeSoonUptoRow.holds Try.pinned (OpenSpec.upto agreeSoonSpec)

/-- 'slotwrightkeep.AgreeTrue', WHERE WHAT IT READS IS OF BULK AT MOST 1048576: true; the input reads as it did. -/
def agreeTrueUptoRow : OpenClaim := { program := "ytjimajjmckjflaa", sum := "fa71c657e75051901d2bb94627578eca7e4cb26ce104d8157e0d6700f5eff9f7", func := "slotwright/slotwrightkeep.AgreeTrue", spec := "agreeTrue", recurses := true, apart := false, narrowed := true }
def AgreeTrueUptoSaid : Prop := agreeTrueUptoRow.holds Try.pinned (OpenSpec.upto agreeTrueSpec)

end Rows
end Go.Proofs.Ytjimajjmckjflaa
