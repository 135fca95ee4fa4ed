/-
  No cell of these rows narrows 'for every input' (looked for: loops, veiled, ifaces, maps, wideKeys, modest, calm, conditions, laid).
  DERIVED. THE GIVEN ROWS OF THIS SEAT. 10 by the template 'for every input the law returns true; each argument reads behind the call as it read before'; 0 by the template 'total and deterministic' (their statements: YtllloipjaeljlaaTotals.lean).
  GIVEN WITH THE SEED: the statements are not yours to turn. If you find one false, say at which input.
  Laid BY PROGRAM, IN A SANDBOX (cutbox-rows.mjs): the forced cells as the released guide's own fill.sh prints them over the translation 1e0ef96b968e7985… (all of the seat's roots in one cut). By AI agents, Wed Nov 11 2026. No macro, syntax, notation, axiom, sorry.
-/
import Derived.Test.YtllloipjaeljlaaChecked
import GoSem.Claim
import GoSem.ClaimJoined
import GoSem.ClaimMapViews
import Derived.JoinedTies
import Derived.KernelRfl
namespace Go.Proofs.Ytllloipjaeljlaa
/- THE CELL 'sum', in the pinned program and in every row, IS THE sha256 OF THE DUMP (.gsa) THAT YtllloipjaeljlaaProg.lean LOADS. Nothing in Lean hashes anything: it is a label: what it is worth is what the hold of that sum in a sandbox is worth. -/
noncomputable def Try.pinned : Pinned := { name := "ytllloipjaeljlaa", sum := "1e0ef96b968e7985bfcb68b1bd46b0475c54fd06e90298a31709876a52839a12", checked := Try.checked }
namespace Rows
def none {H : Type} : Left H := { results := [], args := [] }

/-- 'slotwrightlaw.StuffTells': WHATEVER THE INPUT: true; the input reads as it did. -/
def stuffTellsSpec : ChangeSpec := { name := "stuffTells", fn := fun _ => fun
  | [d] => { results := [.lit (.bool true)], args := [d] }
  | _ => none }
def stuffTellsRow : OpenClaim := { program := "ytllloipjaeljlaa", sum := "1e0ef96b968e7985bfcb68b1bd46b0475c54fd06e90298a31709876a52839a12", func := "slotwright/slotwrightlaw.StuffTells", spec := "stuffTells", apart := false }
def StuffTellsSaid : Prop := stuffTellsRow.holds Try.pinned (OpenSpec.ofChange stuffTellsSpec)

/-- ITS FALSE NEIGHBOUR: 'it returns false'. Refute it at one input. -/
def stuffTellsWrong : ChangeSpec := { name := "stuffTells", fn := fun _ => fun
  | [d] => { results := [.lit (.bool false)], args := [d] }
  | _ => none }
def StuffTellsWrongFalsely : Prop := stuffTellsRow.holds Try.pinned (OpenSpec.ofChange stuffTellsWrong)

/-- 'slotwrightkeep.StuffBack': WHATEVER THE INPUT: true; the input reads as it did. -/
def stuffBackSpec : ChangeSpec := { name := "stuffBack", fn := fun _ => fun
  | [d] => { results := [.lit (.bool true)], args := [d] }
  | _ => none }
def stuffBackRow : OpenClaim := { program := "ytllloipjaeljlaa", sum := "1e0ef96b968e7985bfcb68b1bd46b0475c54fd06e90298a31709876a52839a12", func := "slotwright/slotwrightkeep.StuffBack", spec := "stuffBack", apart := false }
def StuffBackSaid : Prop := stuffBackRow.holds Try.pinned (OpenSpec.ofChange stuffBackSpec)

/-- ITS FALSE NEIGHBOUR: 'it returns false'. Refute it at one input. -/
def stuffBackWrong : ChangeSpec := { name := "stuffBack", fn := fun _ => fun
  | [d] => { results := [.lit (.bool false)], args := [d] }
  | _ => none }
def StuffBackWrongFalsely : Prop := stuffBackRow.holds Try.pinned (OpenSpec.ofChange stuffBackWrong)

/-- 'slotwrightkeep.StuffNever': WHATEVER THE INPUT: true; the input reads as it did. -/
def stuffNeverSpec : ChangeSpec := { name := "stuffNever", fn := fun _ => fun
  | [d] => { results := [.lit (.bool true)], args := [d] }
  | _ => none }
def stuffNeverRow : OpenClaim := { program := "ytllloipjaeljlaa", sum := "1e0ef96b968e7985bfcb68b1bd46b0475c54fd06e90298a31709876a52839a12", func := "slotwright/slotwrightkeep.StuffNever", spec := "stuffNever", apart := false }
def StuffNeverSaid : Prop := stuffNeverRow.holds Try.pinned (OpenSpec.ofChange stuffNeverSpec)

/-- ITS FALSE NEIGHBOUR: 'it returns false'. Refute it at one input. -/
def stuffNeverWrong : ChangeSpec := { name := "stuffNever", fn := fun _ => fun
  | [d] => { results := [.lit (.bool false)], args := [d] }
  | _ => none }
def StuffNeverWrongFalsely : Prop := stuffNeverRow.holds Try.pinned (OpenSpec.ofChange stuffNeverWrong)

/-- 'slotwrightkeep.StuffTurned': WHATEVER THE INPUT: true; the input reads as it did. -/
def stuffTurnedSpec : ChangeSpec := { name := "stuffTurned", fn := fun _ => fun
  | [d] => { results := [.lit (.bool true)], args := [d] }
  | _ => none }
def stuffTurnedRow : OpenClaim := { program := "ytllloipjaeljlaa", sum := "1e0ef96b968e7985bfcb68b1bd46b0475c54fd06e90298a31709876a52839a12", func := "slotwright/slotwrightkeep.StuffTurned", spec := "stuffTurned", unfollowed := true, recurses := true, apart := false }
def StuffTurnedSaid : Prop := stuffTurnedRow.holds Try.pinned (OpenSpec.ofChange stuffTurnedSpec)

/-- ITS FALSE NEIGHBOUR: 'it returns false'. Refute it at one input. -/
def stuffTurnedWrong : ChangeSpec := { name := "stuffTurned", fn := fun _ => fun
  | [d] => { results := [.lit (.bool false)], args := [d] }
  | _ => none }
def StuffTurnedWrongFalsely : Prop := stuffTurnedRow.holds Try.pinned (OpenSpec.ofChange stuffTurnedWrong)

/-- 'slotwrightkeep.StuffAhead': WHATEVER THE INPUT: true; the input reads as it did. -/
def stuffAheadSpec : ChangeSpec := { name := "stuffAhead", fn := fun _ => fun
  | [d1, d2] => { results := [.lit (.bool true)], args := [d1, d2] }
  | _ => none }
def stuffAheadRow : OpenClaim := { program := "ytllloipjaeljlaa", sum := "1e0ef96b968e7985bfcb68b1bd46b0475c54fd06e90298a31709876a52839a12", func := "slotwright/slotwrightkeep.StuffAhead", spec := "stuffAhead", apart := false }
def StuffAheadSaid : Prop := stuffAheadRow.holds Try.pinned (OpenSpec.ofChange stuffAheadSpec)

/-- ITS FALSE NEIGHBOUR: 'it returns false'. Refute it at one input. -/
def stuffAheadWrong : ChangeSpec := { name := "stuffAhead", fn := fun _ => fun
  | [d1, d2] => { results := [.lit (.bool false)], args := [d1, d2] }
  | _ => none }
def StuffAheadWrongFalsely : Prop := stuffAheadRow.holds Try.pinned (OpenSpec.ofChange stuffAheadWrong)

/-- 'slotwrightlaw.CrcTells': WHATEVER THE INPUT: true; the input reads as it did. -/
def crcTellsSpec : ChangeSpec := { name := "crcTells", fn := fun _ => fun
  | [d] => { results := [.lit (.bool true)], args := [d] }
  | _ => none }
def crcTellsRow : OpenClaim := { program := "ytllloipjaeljlaa", sum := "1e0ef96b968e7985bfcb68b1bd46b0475c54fd06e90298a31709876a52839a12", func := "slotwright/slotwrightlaw.CrcTells", spec := "crcTells", apart := false }
def CrcTellsSaid : Prop := crcTellsRow.holds Try.pinned (OpenSpec.ofChange crcTellsSpec)

/-- ITS FALSE NEIGHBOUR: 'it returns false'. Refute it at one input. -/
def crcTellsWrong : ChangeSpec := { name := "crcTells", fn := fun _ => fun
  | [d] => { results := [.lit (.bool false)], args := [d] }
  | _ => none }
def CrcTellsWrongFalsely : Prop := crcTellsRow.holds Try.pinned (OpenSpec.ofChange crcTellsWrong)

/-- 'slotwrightkeep.CrcBack': WHATEVER THE INPUT: true; the input reads as it did. -/
def crcBackSpec : ChangeSpec := { name := "crcBack", fn := fun _ => fun
  | [d] => { results := [.lit (.bool true)], args := [d] }
  | _ => none }
def crcBackRow : OpenClaim := { program := "ytllloipjaeljlaa", sum := "1e0ef96b968e7985bfcb68b1bd46b0475c54fd06e90298a31709876a52839a12", func := "slotwright/slotwrightkeep.CrcBack", spec := "crcBack", apart := false }
def CrcBackSaid : Prop := crcBackRow.holds Try.pinned (OpenSpec.ofChange crcBackSpec)

/-- ITS FALSE NEIGHBOUR: 'it returns false'. Refute it at one input. -/
def crcBackWrong : ChangeSpec := { name := "crcBack", fn := fun _ => fun
  | [d] => { results := [.lit (.bool false)], args := [d] }
  | _ => none }
def CrcBackWrongFalsely : Prop := crcBackRow.holds Try.pinned (OpenSpec.ofChange crcBackWrong)

/-- 'slotwrightkeep.CrcBurst': WHATEVER THE INPUT: true; the input reads as it did. -/
def crcBurstSpec : ChangeSpec := { name := "crcBurst", fn := fun _ => fun
  | [d1, d2, d3] => { results := [.lit (.bool true)], args := [d1, d2, d3] }
  | _ => none }
def crcBurstRow : OpenClaim := { program := "ytllloipjaeljlaa", sum := "1e0ef96b968e7985bfcb68b1bd46b0475c54fd06e90298a31709876a52839a12", func := "slotwright/slotwrightkeep.CrcBurst", spec := "crcBurst", apart := false }
def CrcBurstSaid : Prop := crcBurstRow.holds Try.pinned (OpenSpec.ofChange crcBurstSpec)

/-- ITS FALSE NEIGHBOUR: 'it returns false'. Refute it at one input. -/
def crcBurstWrong : ChangeSpec := { name := "crcBurst", fn := fun _ => fun
  | [d1, d2, d3] => { results := [.lit (.bool false)], args := [d1, d2, d3] }
  | _ => none }
def CrcBurstWrongFalsely : Prop := crcBurstRow.holds Try.pinned (OpenSpec.ofChange crcBurstWrong)

/-- 'slotwrightkeep.CrcOdd': WHATEVER THE INPUT: true; the input reads as it did. -/
def crcOddSpec : ChangeSpec := { name := "crcOdd", fn := fun _ => fun
  | [d1, d2] => { results := [.lit (.bool true)], args := [d1, d2] }
  | _ => none }
def crcOddRow : OpenClaim := { program := "ytllloipjaeljlaa", sum := "1e0ef96b968e7985bfcb68b1bd46b0475c54fd06e90298a31709876a52839a12", func := "slotwright/slotwrightkeep.CrcOdd", spec := "crcOdd", apart := false }
def CrcOddSaid : Prop := crcOddRow.holds Try.pinned (OpenSpec.ofChange crcOddSpec)

/-- ITS FALSE NEIGHBOUR: 'it returns false'. Refute it at one input. -/
def crcOddWrong : ChangeSpec := { name := "crcOdd", fn := fun _ => fun
  | [d1, d2] => { results := [.lit (.bool false)], args := [d1, d2] }
  | _ => none }
def CrcOddWrongFalsely : Prop := crcOddRow.holds Try.pinned (OpenSpec.ofChange crcOddWrong)

/-- 'slotwrightkeep.CrcMix': WHATEVER THE INPUT: true; the input reads as it did. -/
def crcMixSpec : ChangeSpec := { name := "crcMix", fn := fun _ => fun
  | [d1, d2] => { results := [.lit (.bool true)], args := [d1, d2] }
  | _ => none }
def crcMixRow : OpenClaim := { program := "ytllloipjaeljlaa", sum := "1e0ef96b968e7985bfcb68b1bd46b0475c54fd06e90298a31709876a52839a12", func := "slotwright/slotwrightkeep.CrcMix", spec := "crcMix", apart := false }
def CrcMixSaid : Prop := crcMixRow.holds Try.pinned (OpenSpec.ofChange crcMixSpec)

/-- ITS FALSE NEIGHBOUR: 'it returns false'. Refute it at one input. -/
def crcMixWrong : ChangeSpec := { name := "crcMix", fn := fun _ => fun
  | [d1, d2] => { results := [.lit (.bool false)], args := [d1, d2] }
  | _ => none }
def CrcMixWrongFalsely : Prop := crcMixRow.holds Try.pinned (OpenSpec.ofChange crcMixWrong)

/- THE SECOND FORM. 'bulk': how many values and letters a reading holds, each counted each time it is reached (what is shared counts as often as it is met; a slice's spare places count too). A statement '..UptoSaid' is the law's where the arguments, and the package variables that the reading takes, are together of bulk at most 1048576: NARROWER than '..Said'. Prove '..Said' where nothing that the law and all that it calls make is longer than what came in: it says more and counts as full. Else prove '..UptoSaid'. A law counts once. -/
mutual
def uptoBulk {H : Type} : DataW H → Nat
  | .lit (.string bytes) => bytes.length + 1
  | .lit _ => 1
  | .nil => 1
  | .ptr d => uptoBulk d + 1
  | .slice elems spare => uptoBulkAll elems + uptoBulkAll spare + 1
  | .agg parts => uptoBulkAll parts + 1
  | .iface _ d => uptoBulk d + 1
  | .map entries => uptoBulkEntries entries + 1
  | .held _ => 1
def uptoBulkAll {H : Type} : List (DataW H) → Nat
  | [] => 0
  | d :: r => uptoBulk d + uptoBulkAll r
def uptoBulkEntries {H : Type} : List (Lit × DataW H) → Nat
  | [] => 0
  | x :: r => uptoBulkEntry x + uptoBulkEntries r
def uptoBulkEntry {H : Type} : Lit × DataW H → Nat
  | (.string bytes, d) => bytes.length + uptoBulk d + 1
  | (_, d) => uptoBulk d + 1
 end
def uptoSmall : (H : Type) → List (DataW H) → Bool := fun _ ds => decide (uptoBulkAll ds ≤ 1048576)
def OpenSpec.upto (s : _root_.Go.ChangeSpec) : _root_.Go.OpenSpec := { _root_.Go.OpenSpec.ofChange s with cond := some uptoSmall }

/-- 'slotwrightlaw.StuffTells', WHERE WHAT IT READS IS OF BULK AT MOST 1048576: true; the input reads as it did. -/
def stuffTellsUptoRow : OpenClaim := { program := "ytllloipjaeljlaa", sum := "1e0ef96b968e7985bfcb68b1bd46b0475c54fd06e90298a31709876a52839a12", func := "slotwright/slotwrightlaw.StuffTells", spec := "stuffTells", apart := false, narrowed := true }
def StuffTellsUptoSaid : Prop := stuffTellsUptoRow.holds Try.pinned (OpenSpec.upto stuffTellsSpec)

/-- 'slotwrightkeep.StuffBack', WHERE WHAT IT READS IS OF BULK AT MOST 1048576: true; the input reads as it did. -/
def stuffBackUptoRow : OpenClaim := { program := "ytllloipjaeljlaa", sum := "1e0ef96b968e7985bfcb68b1bd46b0475c54fd06e90298a31709876a52839a12", func := "slotwright/slotwrightkeep.StuffBack", spec := "stuffBack", apart := false, narrowed := true }
def StuffBackUptoSaid : Prop := stuffBackUptoRow.holds Try.pinned (OpenSpec.upto stuffBackSpec)

/-- 'slotwrightkeep.StuffNever', WHERE WHAT IT READS IS OF BULK AT MOST 1048576: true; the input reads as it did. -/
def stuffNeverUptoRow : OpenClaim := { program := "ytllloipjaeljlaa", sum := "1e0ef96b968e7985bfcb68b1bd46b0475c54fd06e90298a31709876a52839a12", func := "slotwright/slotwrightkeep.StuffNever", spec := "stuffNever", apart := false, narrowed := true }
def StuffNeverUptoSaid : Prop := stuffNeverUptoRow.holds Try.pinned (OpenSpec.upto stuffNeverSpec)

/-- 'slotwrightkeep.StuffTurned', WHERE WHAT IT READS IS OF BULK AT MOST 1048576: true; the input reads as it did. -/
def stuffTurnedUptoRow : OpenClaim := { program := "ytllloipjaeljlaa", sum := "1e0ef96b968e7985bfcb68b1bd46b0475c54fd06e90298a31709876a52839a12", func := "slotwright/slotwrightkeep.StuffTurned", spec := "stuffTurned", unfollowed := true, recurses := true, apart := false, narrowed := true }
def StuffTurnedUptoSaid : Prop := stuffTurnedUptoRow.holds Try.pinned (OpenSpec.upto stuffTurnedSpec)

/-- 'slotwrightkeep.StuffAhead', WHERE WHAT IT READS IS OF BULK AT MOST 1048576: true; the input reads as it did. -/
def stuffAheadUptoRow : OpenClaim := { program := "ytllloipjaeljlaa", sum := "1e0ef96b968e7985bfcb68b1bd46b0475c54fd06e90298a31709876a52839a12", func := "slotwright/slotwrightkeep.StuffAhead", spec := "stuffAhead", apart := false, narrowed := true }
def StuffAheadUptoSaid : Prop := stuffAheadUptoRow.holds Try.pinned (OpenSpec.upto stuffAheadSpec)

/-- 'slotwrightlaw.CrcTells', WHERE WHAT IT READS IS OF BULK AT MOST 1048576: true; the input reads as it did. -/
def crcTellsUptoRow : OpenClaim := { program := "ytllloipjaeljlaa", sum := "1e0ef96b968e7985bfcb68b1bd46b0475c54fd06e90298a31709876a52839a12", func := "slotwright/slotwrightlaw.CrcTells", spec := "crcTells", apart := false, narrowed := true }
def CrcTellsUptoSaid : Prop := crcTellsUptoRow.holds Try.pinned (OpenSpec.upto crcTellsSpec)

/-- 'slotwrightkeep.CrcBack', WHERE WHAT IT READS IS OF BULK AT MOST 1048576: true; the input reads as it did. -/
def crcBackUptoRow : OpenClaim := { program := "ytllloipjaeljlaa", sum := "1e0ef96b968e7985bfcb68b1bd46b0475c54fd06e90298a31709876a52839a12", func := "slotwright/slotwrightkeep.CrcBack", spec := "crcBack", apart := false, narrowed := true }
def CrcBackUptoSaid : Prop := crcBackUptoRow.holds Try.pinned (OpenSpec.upto crcBackSpec)

/-- 'slotwrightkeep.CrcBurst', WHERE WHAT IT READS IS OF BULK AT MOST 1048576: true; the input reads as it did. -/
def crcBurstUptoRow : OpenClaim := { program := "ytllloipjaeljlaa", sum := "1e0ef96b968e7985bfcb68b1bd46b0475c54fd06e90298a31709876a52839a12", func := "slotwright/slotwrightkeep.CrcBurst", spec := "crcBurst", apart := false, narrowed := true }
def CrcBurstUptoSaid : Prop := crcBurstUptoRow.holds Try.pinned (OpenSpec.upto crcBurstSpec)

/-- 'slotwrightkeep.CrcOdd', WHERE WHAT IT READS IS OF BULK AT MOST 1048576: true; the input reads as it did. -/
def crcOddUptoRow : OpenClaim := { program := "ytllloipjaeljlaa", sum := "1e0ef96b968e7985bfcb68b1bd46b0475c54fd06e90298a31709876a52839a12", func := "slotwright/slotwrightkeep.CrcOdd", spec := "crcOdd", apart := false, narrowed := true }
def CrcOddUptoSaid : Prop := crcOddUptoRow.holds Try.pinned (OpenSpec.upto crcOddSpec)

/-- 'slotwrightkeep.CrcMix', WHERE WHAT IT READS IS OF BULK AT MOST 1048576: true; the input reads as it did. -/
def crcMixUptoRow : OpenClaim := { program := "ytllloipjaeljlaa", sum := "1e0ef96b968e7985bfcb68b1bd46b0475c54fd06e90298a31709876a52839a12", func := "slotwright/slotwrightkeep.CrcMix", spec := "crcMix", apart := false, narrowed := true }
def CrcMixUptoSaid : Prop := crcMixUptoRow.holds Try.pinned (OpenSpec.upto crcMixSpec)

end Rows
end Go.Proofs.Ytllloipjaeljlaa
