/-
  No cell of these rows narrows 'for every input' (looked for: loops, veiled, ifaces, maps, wideKeys, modest, calm, conditions, laid).
  DERIVED. THE GIVEN ROWS OF THIS SEAT. 5 by the template 'for every input the law returns true; each argument reads behind the call as it read before'; 0 by the template 'total and deterministic' (their statements: YtolcfifbnmkfaaaTotals.lean).
  GIVEN WITH THE SEED: the statements are not yours to turn. If you find one false, say at which input.
  Laid BY PROGRAM, IN A SANDBOX (cutbox-rows.mjs): the forced cells as the released guide's own fill.sh prints them over the translation 43b11c8012e70cb0… (all of the seat's roots in one cut). By AI agents, Wed Nov 11 2026. No macro, syntax, notation, axiom, sorry.
-/
import Derived.Test.YtolcfifbnmkfaaaChecked
import GoSem.Claim
import GoSem.ClaimJoined
import GoSem.ClaimMapViews
import Derived.JoinedTies
import Derived.KernelRfl
namespace Go.Proofs.Ytolcfifbnmkfaaa
/- THE CELL 'sum', in the pinned program and in every row, IS THE sha256 OF THE DUMP (.gsa) THAT YtolcfifbnmkfaaaProg.lean LOADS. Nothing in Lean hashes anything: it is a label: what it is worth is what the hold of that sum in a sandbox is worth. -/
noncomputable def Try.pinned : Pinned := { name := "ytolcfifbnmkfaaa", sum := "43b11c8012e70cb005d78f8ce4e1195c5b278279c4dc02909f6f77a322992760", checked := Try.checked }
namespace Rows
def none {H : Type} : Left H := { results := [], args := [] }

/-- 'slotwrightlaw.ArbPlays': WHATEVER THE INPUT: true; the input reads as it did. -/
def arbPlaysSpec : ChangeSpec := { name := "arbPlays", fn := fun _ => fun
  | [d] => { results := [.lit (.bool true)], args := [d] }
  | _ => none }
def arbPlaysRow : OpenClaim := { program := "ytolcfifbnmkfaaa", sum := "43b11c8012e70cb005d78f8ce4e1195c5b278279c4dc02909f6f77a322992760", func := "slotwright/slotwrightlaw.ArbPlays", spec := "arbPlays", unfollowed := true, recurses := true, apart := false }
def ArbPlaysSaid : Prop := arbPlaysRow.holds Try.pinned (OpenSpec.ofChange arbPlaysSpec)

/-- ITS FALSE NEIGHBOUR: 'it returns false'. Refute it at one input. -/
def arbPlaysWrong : ChangeSpec := { name := "arbPlays", fn := fun _ => fun
  | [d] => { results := [.lit (.bool false)], args := [d] }
  | _ => none }
def ArbPlaysWrongFalsely : Prop := arbPlaysRow.holds Try.pinned (OpenSpec.ofChange arbPlaysWrong)

/-- 'slotwrightkeep.ArbLeast': WHATEVER THE INPUT: true; the input reads as it did. -/
def arbLeastSpec : ChangeSpec := { name := "arbLeast", fn := fun _ => fun
  | [d] => { results := [.lit (.bool true)], args := [d] }
  | _ => none }
def arbLeastRow : OpenClaim := { program := "ytolcfifbnmkfaaa", sum := "43b11c8012e70cb005d78f8ce4e1195c5b278279c4dc02909f6f77a322992760", func := "slotwright/slotwrightkeep.ArbLeast", spec := "arbLeast", unfollowed := true, recurses := true, apart := false }
def ArbLeastSaid : Prop := arbLeastRow.holds Try.pinned (OpenSpec.ofChange arbLeastSpec)

/-- ITS FALSE NEIGHBOUR: 'it returns false'. Refute it at one input. -/
def arbLeastWrong : ChangeSpec := { name := "arbLeast", fn := fun _ => fun
  | [d] => { results := [.lit (.bool false)], args := [d] }
  | _ => none }
def ArbLeastWrongFalsely : Prop := arbLeastRow.holds Try.pinned (OpenSpec.ofChange arbLeastWrong)

/-- 'slotwrightkeep.ArbMore': WHATEVER THE INPUT: true; the input reads as it did. -/
def arbMoreSpec : ChangeSpec := { name := "arbMore", fn := fun _ => fun
  | [d1, d2] => { results := [.lit (.bool true)], args := [d1, d2] }
  | _ => none }
def arbMoreRow : OpenClaim := { program := "ytolcfifbnmkfaaa", sum := "43b11c8012e70cb005d78f8ce4e1195c5b278279c4dc02909f6f77a322992760", func := "slotwright/slotwrightkeep.ArbMore", spec := "arbMore", unfollowed := true, recurses := true, apart := false }
def ArbMoreSaid : Prop := arbMoreRow.holds Try.pinned (OpenSpec.ofChange arbMoreSpec)

/-- ITS FALSE NEIGHBOUR: 'it returns false'. Refute it at one input. -/
def arbMoreWrong : ChangeSpec := { name := "arbMore", fn := fun _ => fun
  | [d1, d2] => { results := [.lit (.bool false)], args := [d1, d2] }
  | _ => none }
def ArbMoreWrongFalsely : Prop := arbMoreRow.holds Try.pinned (OpenSpec.ofChange arbMoreWrong)

/-- 'slotwrightkeep.ArbFalls': WHATEVER THE INPUT: true; the input reads as it did. -/
def arbFallsSpec : ChangeSpec := { name := "arbFalls", fn := fun _ => fun
  | [d] => { results := [.lit (.bool true)], args := [d] }
  | _ => none }
def arbFallsRow : OpenClaim := { program := "ytolcfifbnmkfaaa", sum := "43b11c8012e70cb005d78f8ce4e1195c5b278279c4dc02909f6f77a322992760", func := "slotwright/slotwrightkeep.ArbFalls", spec := "arbFalls", unfollowed := true, recurses := true, apart := false }
def ArbFallsSaid : Prop := arbFallsRow.holds Try.pinned (OpenSpec.ofChange arbFallsSpec)

/-- ITS FALSE NEIGHBOUR: 'it returns false'. Refute it at one input. -/
def arbFallsWrong : ChangeSpec := { name := "arbFalls", fn := fun _ => fun
  | [d] => { results := [.lit (.bool false)], args := [d] }
  | _ => none }
def ArbFallsWrongFalsely : Prop := arbFallsRow.holds Try.pinned (OpenSpec.ofChange arbFallsWrong)

/-- 'slotwrightkeep.ArbOrder': WHATEVER THE INPUT: true; the input reads as it did. -/
def arbOrderSpec : ChangeSpec := { name := "arbOrder", fn := fun _ => fun
  | [d] => { results := [.lit (.bool true)], args := [d] }
  | _ => none }
def arbOrderRow : OpenClaim := { program := "ytolcfifbnmkfaaa", sum := "43b11c8012e70cb005d78f8ce4e1195c5b278279c4dc02909f6f77a322992760", func := "slotwright/slotwrightkeep.ArbOrder", spec := "arbOrder", unfollowed := true, recurses := true, apart := false }
def ArbOrderSaid : Prop := arbOrderRow.holds Try.pinned (OpenSpec.ofChange arbOrderSpec)

/-- ITS FALSE NEIGHBOUR: 'it returns false'. Refute it at one input. -/
def arbOrderWrong : ChangeSpec := { name := "arbOrder", fn := fun _ => fun
  | [d] => { results := [.lit (.bool false)], args := [d] }
  | _ => none }
def ArbOrderWrongFalsely : Prop := arbOrderRow.holds Try.pinned (OpenSpec.ofChange arbOrderWrong)

/- THE SECOND FORM. 'bulk': how many values and letters a reading holds, each counted each time it is reached (what is shared counts as often as it is met; a slice's spare places count too). A statement '..UptoSaid' is the law's where the arguments, and the package variables that the reading takes, are together of bulk at most 1048576: NARROWER than '..Said'. Prove '..Said' where nothing that the law and all that it calls make is longer than what came in: it says more and counts as full. Else prove '..UptoSaid'. A law counts once. -/
mutual
def uptoBulk {H : Type} : DataW H → Nat
  | .lit (.string bytes) => bytes.length + 1
  | .lit _ => 1
  | .nil => 1
  | .ptr d => uptoBulk d + 1
  | .slice elems spare => uptoBulkAll elems + uptoBulkAll spare + 1
  | .agg parts => uptoBulkAll parts + 1
  | .iface _ d => uptoBulk d + 1
  | .map entries => uptoBulkEntries entries + 1
  | .held _ => 1
def uptoBulkAll {H : Type} : List (DataW H) → Nat
  | [] => 0
  | d :: r => uptoBulk d + uptoBulkAll r
def uptoBulkEntries {H : Type} : List (Lit × DataW H) → Nat
  | [] => 0
  | x :: r => uptoBulkEntry x + uptoBulkEntries r
def uptoBulkEntry {H : Type} : Lit × DataW H → Nat
  | (.string bytes, d) => bytes.length + uptoBulk d + 1
  | (_, d) => uptoBulk d + 1
 end
def uptoSmall : (H : Type) → List (DataW H) → Bool := fun _ ds => decide (uptoBulkAll ds ≤ 1048576)
def OpenSpec.upto (s : _root_.Go.ChangeSpec) : _root_.Go.OpenSpec := { _root_.Go.OpenSpec.ofChange s with cond := some uptoSmall }

/-- 'slotwrightlaw.ArbPlays', WHERE WHAT IT READS IS OF BULK AT MOST 1048576: true; the input reads as it did. -/
def arbPlaysUptoRow : OpenClaim := { program := "ytolcfifbnmkfaaa", sum := "43b11c8012e70cb005d78f8ce4e1195c5b278279c4dc02909f6f77a322992760", func := "slotwright/slotwrightlaw.ArbPlays", spec := "arbPlays", unfollowed := true, recurses := true, apart := false, narrowed := true }
def ArbPlaysUptoSaid : Prop := arbPlaysUptoRow.holds Try.pinned (OpenSpec.upto arbPlaysSpec)

/-- 'slotwrightkeep.ArbLeast', WHERE WHAT IT READS IS OF BULK AT MOST 1048576: true; the input reads as it did. -/
def arbLeastUptoRow : OpenClaim := { program := "ytolcfifbnmkfaaa", sum := "43b11c8012e70cb005d78f8ce4e1195c5b278279c4dc02909f6f77a322992760", func := "slotwright/slotwrightkeep.ArbLeast", spec := "arbLeast", unfollowed := true, recurses := true, apart := false, narrowed := true }
def ArbLeastUptoSaid : Prop := arbLeastUptoRow.holds Try.pinned (OpenSpec.upto arbLeastSpec)

/-- 'slotwrightkeep.ArbMore', WHERE WHAT IT READS IS OF BULK AT MOST 1048576: true; the input reads as it did. -/
def arbMoreUptoRow : OpenClaim := { program := "ytolcfifbnmkfaaa", sum := "43b11c8012e70cb005d78f8ce4e1195c5b278279c4dc02909f6f77a322992760", func := "slotwright/slotwrightkeep.ArbMore", spec := "arbMore", unfollowed := true, recurses := true, apart := false, narrowed := true }
def ArbMoreUptoSaid : Prop := arbMoreUptoRow.holds Try.pinned (OpenSpec.upto arbMoreSpec)

/-- 'slotwrightkeep.ArbFalls', WHERE WHAT IT READS IS OF BULK AT MOST 1048576: true; the input reads as it did. -/
def arbFallsUptoRow : OpenClaim := { program := "ytolcfifbnmkfaaa", sum := "43b11c8012e70cb005d78f8ce4e1195c5b278279c4dc02909f6f77a322992760", func := "slotwright/slotwrightkeep.ArbFalls", spec := "arbFalls", unfollowed := true, recurses := true, apart := false, narrowed := true }
def ArbFallsUptoSaid : Prop := arbFallsUptoRow.holds Try.pinned (OpenSpec.upto arbFallsSpec)

/-- 'slotwrightkeep.ArbOrder', WHERE WHAT IT READS IS OF BULK AT MOST 1048576: true; the input reads as it did. -/
def arbOrderUptoRow : OpenClaim := { program := "ytolcfifbnmkfaaa", sum := "43b11c8012e70cb005d78f8ce4e1195c5b278279c4dc02909f6f77a322992760", func := "slotwright/slotwrightkeep.ArbOrder", spec := "arbOrder", unfollowed := true, recurses := true, apart := false, narrowed := true }
def ArbOrderUptoSaid : Prop := arbOrderUptoRow.holds Try.pinned (OpenSpec.upto arbOrderSpec)

end Rows
end Go.Proofs.Ytolcfifbnmkfaaa
