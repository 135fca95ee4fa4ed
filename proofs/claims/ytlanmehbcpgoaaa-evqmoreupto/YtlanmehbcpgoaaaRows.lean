/-
  No cell of these rows narrows 'for every input' (looked for: loops, veiled, ifaces, maps, wideKeys, modest, calm, conditions, laid).
  DERIVED. THE GIVEN ROWS OF THIS SEAT. 6 by the template 'for every input the law returns true; each argument reads behind the call as it read before'; 0 by the template 'total and deterministic' (their statements: YtlanmehbcpgoaaaTotals.lean).
  GIVEN WITH THE SEED: the statements are not yours to turn. If you find one false, say at which input.
  Laid BY PROGRAM, IN A SANDBOX (cutbox-rows.mjs): the forced cells as the released guide's own fill.sh prints them over the translation b94f4c62db4f84d4… (all of the seat's roots in one cut). By AI agents, Wed Nov 11 2026. No macro, syntax, notation, axiom, sorry.
-/
import Derived.Test.YtlanmehbcpgoaaaChecked
import GoSem.Claim
import GoSem.ClaimJoined
import GoSem.ClaimMapViews
import Derived.JoinedTies
import Derived.KernelRfl
namespace Go.Proofs.Ytlanmehbcpgoaaa
/- THE CELL 'sum', in the pinned program and in every row, IS THE sha256 OF THE DUMP (.gsa) THAT YtlanmehbcpgoaaaProg.lean LOADS. Nothing in Lean hashes anything: it is a label: what it is worth is what the hold of that sum in a sandbox is worth. -/
noncomputable def Try.pinned : Pinned := { name := "ytlanmehbcpgoaaa", sum := "b94f4c62db4f84d427634a86a650ecbceb6e1315f06d7a27dcf875f46deb6baa", checked := Try.checked }
namespace Rows
def none {H : Type} : Left H := { results := [], args := [] }

/-- 'slotwrightlaw.EvqPlays': WHATEVER THE INPUT: true; the input reads as it did. -/
def evqPlaysSpec : ChangeSpec := { name := "evqPlays", fn := fun _ => fun
  | [d] => { results := [.lit (.bool true)], args := [d] }
  | _ => none }
def evqPlaysRow : OpenClaim := { program := "ytlanmehbcpgoaaa", sum := "b94f4c62db4f84d427634a86a650ecbceb6e1315f06d7a27dcf875f46deb6baa", func := "slotwright/slotwrightlaw.EvqPlays", spec := "evqPlays", apart := false }
def EvqPlaysSaid : Prop := evqPlaysRow.holds Try.pinned (OpenSpec.ofChange evqPlaysSpec)

/-- ITS FALSE NEIGHBOUR: 'it returns false'. Refute it at one input. -/
def evqPlaysWrong : ChangeSpec := { name := "evqPlays", fn := fun _ => fun
  | [d] => { results := [.lit (.bool false)], args := [d] }
  | _ => none }
def EvqPlaysWrongFalsely : Prop := evqPlaysRow.holds Try.pinned (OpenSpec.ofChange evqPlaysWrong)

/-- 'slotwrightkeep.EvqOnce': WHATEVER THE INPUT: true; the input reads as it did. -/
def evqOnceSpec : ChangeSpec := { name := "evqOnce", fn := fun _ => fun
  | [d] => { results := [.lit (.bool true)], args := [d] }
  | _ => none }
def evqOnceRow : OpenClaim := { program := "ytlanmehbcpgoaaa", sum := "b94f4c62db4f84d427634a86a650ecbceb6e1315f06d7a27dcf875f46deb6baa", func := "slotwright/slotwrightkeep.EvqOnce", spec := "evqOnce", apart := false }
def EvqOnceSaid : Prop := evqOnceRow.holds Try.pinned (OpenSpec.ofChange evqOnceSpec)

/-- ITS FALSE NEIGHBOUR: 'it returns false'. Refute it at one input. -/
def evqOnceWrong : ChangeSpec := { name := "evqOnce", fn := fun _ => fun
  | [d] => { results := [.lit (.bool false)], args := [d] }
  | _ => none }
def EvqOnceWrongFalsely : Prop := evqOnceRow.holds Try.pinned (OpenSpec.ofChange evqOnceWrong)

/-- 'slotwrightkeep.EvqAll': WHATEVER THE INPUT: true; the input reads as it did. -/
def evqAllSpec : ChangeSpec := { name := "evqAll", fn := fun _ => fun
  | [d] => { results := [.lit (.bool true)], args := [d] }
  | _ => none }
def evqAllRow : OpenClaim := { program := "ytlanmehbcpgoaaa", sum := "b94f4c62db4f84d427634a86a650ecbceb6e1315f06d7a27dcf875f46deb6baa", func := "slotwright/slotwrightkeep.EvqAll", spec := "evqAll", apart := false }
def EvqAllSaid : Prop := evqAllRow.holds Try.pinned (OpenSpec.ofChange evqAllSpec)

/-- ITS FALSE NEIGHBOUR: 'it returns false'. Refute it at one input. -/
def evqAllWrong : ChangeSpec := { name := "evqAll", fn := fun _ => fun
  | [d] => { results := [.lit (.bool false)], args := [d] }
  | _ => none }
def EvqAllWrongFalsely : Prop := evqAllRow.holds Try.pinned (OpenSpec.ofChange evqAllWrong)

/-- 'slotwrightkeep.EvqLost': WHATEVER THE INPUT: true; the input reads as it did. -/
def evqLostSpec : ChangeSpec := { name := "evqLost", fn := fun _ => fun
  | [d1, d2] => { results := [.lit (.bool true)], args := [d1, d2] }
  | _ => none }
def evqLostRow : OpenClaim := { program := "ytlanmehbcpgoaaa", sum := "b94f4c62db4f84d427634a86a650ecbceb6e1315f06d7a27dcf875f46deb6baa", func := "slotwright/slotwrightkeep.EvqLost", spec := "evqLost", inPlace := ["slices.overlaps[slotwright/api.EventOp]"], apart := false }
def EvqLostSaid : Prop := evqLostRow.holds Try.pinned (OpenSpec.ofChange evqLostSpec)

/-- ITS FALSE NEIGHBOUR: 'it returns false'. Refute it at one input. -/
def evqLostWrong : ChangeSpec := { name := "evqLost", fn := fun _ => fun
  | [d1, d2] => { results := [.lit (.bool false)], args := [d1, d2] }
  | _ => none }
def EvqLostWrongFalsely : Prop := evqLostRow.holds Try.pinned (OpenSpec.ofChange evqLostWrong)

/-- 'slotwrightkeep.EvqAhead': WHATEVER THE INPUT: true; the input reads as it did. -/
def evqAheadSpec : ChangeSpec := { name := "evqAhead", fn := fun _ => fun
  | [d1, d2] => { results := [.lit (.bool true)], args := [d1, d2] }
  | _ => none }
def evqAheadRow : OpenClaim := { program := "ytlanmehbcpgoaaa", sum := "b94f4c62db4f84d427634a86a650ecbceb6e1315f06d7a27dcf875f46deb6baa", func := "slotwright/slotwrightkeep.EvqAhead", spec := "evqAhead", apart := false }
def EvqAheadSaid : Prop := evqAheadRow.holds Try.pinned (OpenSpec.ofChange evqAheadSpec)

/-- ITS FALSE NEIGHBOUR: 'it returns false'. Refute it at one input. -/
def evqAheadWrong : ChangeSpec := { name := "evqAhead", fn := fun _ => fun
  | [d1, d2] => { results := [.lit (.bool false)], args := [d1, d2] }
  | _ => none }
def EvqAheadWrongFalsely : Prop := evqAheadRow.holds Try.pinned (OpenSpec.ofChange evqAheadWrong)

/-- 'slotwrightkeep.EvqMore': WHATEVER THE INPUT: true; the input reads as it did. -/
def evqMoreSpec : ChangeSpec := { name := "evqMore", fn := fun _ => fun
  | [d1, d2] => { results := [.lit (.bool true)], args := [d1, d2] }
  | _ => none }
def evqMoreRow : OpenClaim := { program := "ytlanmehbcpgoaaa", sum := "b94f4c62db4f84d427634a86a650ecbceb6e1315f06d7a27dcf875f46deb6baa", func := "slotwright/slotwrightkeep.EvqMore", spec := "evqMore", apart := false }
def EvqMoreSaid : Prop := evqMoreRow.holds Try.pinned (OpenSpec.ofChange evqMoreSpec)

/-- ITS FALSE NEIGHBOUR: 'it returns false'. Refute it at one input. -/
def evqMoreWrong : ChangeSpec := { name := "evqMore", fn := fun _ => fun
  | [d1, d2] => { results := [.lit (.bool false)], args := [d1, d2] }
  | _ => none }
def EvqMoreWrongFalsely : Prop := evqMoreRow.holds Try.pinned (OpenSpec.ofChange evqMoreWrong)

/- THE SECOND FORM. 'bulk': how many values and letters a reading holds, each counted each time it is reached (what is shared counts as often as it is met; a slice's spare places count too). A statement '..UptoSaid' is the law's where the arguments, and the package variables that the reading takes, are together of bulk at most 1048576: NARROWER than '..Said'. Prove '..Said' where nothing that the law and all that it calls make is longer than what came in: it says more and counts as full. Else prove '..UptoSaid'. A law counts once. -/
mutual
def uptoBulk {H : Type} : DataW H → Nat
  | .lit (.string bytes) => bytes.length + 1
  | .lit _ => 1
  | .nil => 1
  | .ptr d => uptoBulk d + 1
  | .slice elems spare => uptoBulkAll elems + uptoBulkAll spare + 1
  | .agg parts => uptoBulkAll parts + 1
  | .iface _ d => uptoBulk d + 1
  | .map entries => uptoBulkEntries entries + 1
  | .held _ => 1
def uptoBulkAll {H : Type} : List (DataW H) → Nat
  | [] => 0
  | d :: r => uptoBulk d + uptoBulkAll r
def uptoBulkEntries {H : Type} : List (Lit × DataW H) → Nat
  | [] => 0
  | x :: r => uptoBulkEntry x + uptoBulkEntries r
def uptoBulkEntry {H : Type} : Lit × DataW H → Nat
  | (.string bytes, d) => bytes.length + uptoBulk d + 1
  | (_, d) => uptoBulk d + 1
 end
def uptoSmall : (H : Type) → List (DataW H) → Bool := fun _ ds => decide (uptoBulkAll ds ≤ 1048576)
def OpenSpec.upto (s : _root_.Go.ChangeSpec) : _root_.Go.OpenSpec := { _root_.Go.OpenSpec.ofChange s with cond := some uptoSmall }

/-- 'slotwrightlaw.EvqPlays', WHERE WHAT IT READS IS OF BULK AT MOST 1048576: true; the input reads as it did. -/
def evqPlaysUptoRow : OpenClaim := { program := "ytlanmehbcpgoaaa", sum := "b94f4c62db4f84d427634a86a650ecbceb6e1315f06d7a27dcf875f46deb6baa", func := "slotwright/slotwrightlaw.EvqPlays", spec := "evqPlays", apart := false, narrowed := true }
def EvqPlaysUptoSaid : Prop := evqPlaysUptoRow.holds Try.pinned (OpenSpec.upto evqPlaysSpec)

/-- 'slotwrightkeep.EvqOnce', WHERE WHAT IT READS IS OF BULK AT MOST 1048576: true; the input reads as it did. -/
def evqOnceUptoRow : OpenClaim := { program := "ytlanmehbcpgoaaa", sum := "b94f4c62db4f84d427634a86a650ecbceb6e1315f06d7a27dcf875f46deb6baa", func := "slotwright/slotwrightkeep.EvqOnce", spec := "evqOnce", apart := false, narrowed := true }
def EvqOnceUptoSaid : Prop := evqOnceUptoRow.holds Try.pinned (OpenSpec.upto evqOnceSpec)

/-- 'slotwrightkeep.EvqAll', WHERE WHAT IT READS IS OF BULK AT MOST 1048576: true; the input reads as it did. -/
def evqAllUptoRow : OpenClaim := { program := "ytlanmehbcpgoaaa", sum := "b94f4c62db4f84d427634a86a650ecbceb6e1315f06d7a27dcf875f46deb6baa", func := "slotwright/slotwrightkeep.EvqAll", spec := "evqAll", apart := false, narrowed := true }
def EvqAllUptoSaid : Prop := evqAllUptoRow.holds Try.pinned (OpenSpec.upto evqAllSpec)

/-- 'slotwrightkeep.EvqLost', WHERE WHAT IT READS IS OF BULK AT MOST 1048576: true; the input reads as it did. -/
def evqLostUptoRow : OpenClaim := { program := "ytlanmehbcpgoaaa", sum := "b94f4c62db4f84d427634a86a650ecbceb6e1315f06d7a27dcf875f46deb6baa", func := "slotwright/slotwrightkeep.EvqLost", spec := "evqLost", inPlace := ["slices.overlaps[slotwright/api.EventOp]"], apart := false, narrowed := true }
def EvqLostUptoSaid : Prop := evqLostUptoRow.holds Try.pinned (OpenSpec.upto evqLostSpec)

/-- 'slotwrightkeep.EvqAhead', WHERE WHAT IT READS IS OF BULK AT MOST 1048576: true; the input reads as it did. -/
def evqAheadUptoRow : OpenClaim := { program := "ytlanmehbcpgoaaa", sum := "b94f4c62db4f84d427634a86a650ecbceb6e1315f06d7a27dcf875f46deb6baa", func := "slotwright/slotwrightkeep.EvqAhead", spec := "evqAhead", apart := false, narrowed := true }
def EvqAheadUptoSaid : Prop := evqAheadUptoRow.holds Try.pinned (OpenSpec.upto evqAheadSpec)

/-- 'slotwrightkeep.EvqMore', WHERE WHAT IT READS IS OF BULK AT MOST 1048576: true; the input reads as it did. -/
def evqMoreUptoRow : OpenClaim := { program := "ytlanmehbcpgoaaa", sum := "b94f4c62db4f84d427634a86a650ecbceb6e1315f06d7a27dcf875f46deb6baa", func := "slotwright/slotwrightkeep.EvqMore", spec := "evqMore", apart := false, narrowed := true }
def EvqMoreUptoSaid : Prop := evqMoreUptoRow.holds Try.pinned (OpenSpec.upto evqMoreSpec)

end Rows
end Go.Proofs.Ytlanmehbcpgoaaa
