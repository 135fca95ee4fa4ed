/-
  No cell of these rows narrows 'for every input' (looked for: loops, veiled, ifaces, maps, wideKeys, modest, calm, conditions, laid).
  DERIVED. THE GIVEN ROWS OF THIS SEAT. 6 by the template 'for every input the law returns true; each argument reads behind the call as it read before'; 0 by the template 'total and deterministic' (their statements: YtmehdlnhllafaaaTotals.lean).
  GIVEN WITH THE SEED: the statements are not yours to turn. If you find one false, say at which input.
  Laid BY PROGRAM, IN A SANDBOX (cutbox-rows.mjs): the forced cells as the released guide's own fill.sh prints them over the translation 501664a0e2048448… (all of the seat's roots in one cut). By AI agents, Wed Nov 11 2026. No macro, syntax, notation, axiom, sorry.
-/
import Derived.Test.YtmehdlnhllafaaaChecked
import GoSem.Claim
import GoSem.ClaimJoined
import GoSem.ClaimMapViews
import Derived.JoinedTies
import Derived.KernelRfl
namespace Go.Proofs.Ytmehdlnhllafaaa
/- THE CELL 'sum', in the pinned program and in every row, IS THE sha256 OF THE DUMP (.gsa) THAT YtmehdlnhllafaaaProg.lean LOADS. Nothing in Lean hashes anything: it is a label: what it is worth is what the hold of that sum in a sandbox is worth. -/
noncomputable def Try.pinned : Pinned := { name := "ytmehdlnhllafaaa", sum := "501664a0e2048448fb40134290c1f54f88af7345e0433e16c0618d8d25d28d21", checked := Try.checked }
namespace Rows
def none {H : Type} : Left H := { results := [], args := [] }

/-- 'slotwrightlaw.CobsTells': WHATEVER THE INPUT: true; the input reads as it did. -/
def cobsTellsSpec : ChangeSpec := { name := "cobsTells", fn := fun _ => fun
  | [d] => { results := [.lit (.bool true)], args := [d] }
  | _ => none }
def cobsTellsRow : OpenClaim := { program := "ytmehdlnhllafaaa", sum := "501664a0e2048448fb40134290c1f54f88af7345e0433e16c0618d8d25d28d21", func := "slotwright/slotwrightlaw.CobsTells", spec := "cobsTells", inPlace := ["internal/bytealg.IndexByte", "internal/bytealg.Count", "internal/bytealg.Index"], named := ["internal/bytealg.MaxLen"], apart := false }
def CobsTellsSaid : Prop := cobsTellsRow.holds Try.pinned (OpenSpec.ofChange cobsTellsSpec)

/-- ITS FALSE NEIGHBOUR: 'it returns false'. Refute it at one input. -/
def cobsTellsWrong : ChangeSpec := { name := "cobsTells", fn := fun _ => fun
  | [d] => { results := [.lit (.bool false)], args := [d] }
  | _ => none }
def CobsTellsWrongFalsely : Prop := cobsTellsRow.holds Try.pinned (OpenSpec.ofChange cobsTellsWrong)

/-- 'slotwrightkeep.CobsBack': WHATEVER THE INPUT: true; the input reads as it did. -/
def cobsBackSpec : ChangeSpec := { name := "cobsBack", fn := fun _ => fun
  | [d] => { results := [.lit (.bool true)], args := [d] }
  | _ => none }
def cobsBackRow : OpenClaim := { program := "ytmehdlnhllafaaa", sum := "501664a0e2048448fb40134290c1f54f88af7345e0433e16c0618d8d25d28d21", func := "slotwright/slotwrightkeep.CobsBack", spec := "cobsBack", inPlace := ["internal/bytealg.IndexByte", "internal/bytealg.Count", "internal/bytealg.Index"], named := ["internal/bytealg.MaxLen"], apart := false }
def CobsBackSaid : Prop := cobsBackRow.holds Try.pinned (OpenSpec.ofChange cobsBackSpec)

/-- ITS FALSE NEIGHBOUR: 'it returns false'. Refute it at one input. -/
def cobsBackWrong : ChangeSpec := { name := "cobsBack", fn := fun _ => fun
  | [d] => { results := [.lit (.bool false)], args := [d] }
  | _ => none }
def CobsBackWrongFalsely : Prop := cobsBackRow.holds Try.pinned (OpenSpec.ofChange cobsBackWrong)

/-- 'slotwrightkeep.CobsGrows': WHATEVER THE INPUT: true; the input reads as it did. -/
def cobsGrowsSpec : ChangeSpec := { name := "cobsGrows", fn := fun _ => fun
  | [d] => { results := [.lit (.bool true)], args := [d] }
  | _ => none }
def cobsGrowsRow : OpenClaim := { program := "ytmehdlnhllafaaa", sum := "501664a0e2048448fb40134290c1f54f88af7345e0433e16c0618d8d25d28d21", func := "slotwright/slotwrightkeep.CobsGrows", spec := "cobsGrows", inPlace := ["internal/bytealg.IndexByte", "internal/bytealg.Count", "internal/bytealg.Index"], named := ["internal/bytealg.MaxLen"], apart := false }
def CobsGrowsSaid : Prop := cobsGrowsRow.holds Try.pinned (OpenSpec.ofChange cobsGrowsSpec)

/-- ITS FALSE NEIGHBOUR: 'it returns false'. Refute it at one input. -/
def cobsGrowsWrong : ChangeSpec := { name := "cobsGrows", fn := fun _ => fun
  | [d] => { results := [.lit (.bool false)], args := [d] }
  | _ => none }
def CobsGrowsWrongFalsely : Prop := cobsGrowsRow.holds Try.pinned (OpenSpec.ofChange cobsGrowsWrong)

/-- 'slotwrightkeep.CobsParts': WHATEVER THE INPUT: true; the input reads as it did. -/
def cobsPartsSpec : ChangeSpec := { name := "cobsParts", fn := fun _ => fun
  | [d1, d2] => { results := [.lit (.bool true)], args := [d1, d2] }
  | _ => none }
def cobsPartsRow : OpenClaim := { program := "ytmehdlnhllafaaa", sum := "501664a0e2048448fb40134290c1f54f88af7345e0433e16c0618d8d25d28d21", func := "slotwright/slotwrightkeep.CobsParts", spec := "cobsParts", inPlace := ["internal/bytealg.IndexByte", "internal/bytealg.Count", "internal/bytealg.Index"], named := ["internal/bytealg.MaxLen"], apart := false }
def CobsPartsSaid : Prop := cobsPartsRow.holds Try.pinned (OpenSpec.ofChange cobsPartsSpec)

/-- ITS FALSE NEIGHBOUR: 'it returns false'. Refute it at one input. -/
def cobsPartsWrong : ChangeSpec := { name := "cobsParts", fn := fun _ => fun
  | [d1, d2] => { results := [.lit (.bool false)], args := [d1, d2] }
  | _ => none }
def CobsPartsWrongFalsely : Prop := cobsPartsRow.holds Try.pinned (OpenSpec.ofChange cobsPartsWrong)

/-- 'slotwrightkeep.CobsAgain': WHATEVER THE INPUT: true; the input reads as it did. -/
def cobsAgainSpec : ChangeSpec := { name := "cobsAgain", fn := fun _ => fun
  | [d1, d2] => { results := [.lit (.bool true)], args := [d1, d2] }
  | _ => none }
def cobsAgainRow : OpenClaim := { program := "ytmehdlnhllafaaa", sum := "501664a0e2048448fb40134290c1f54f88af7345e0433e16c0618d8d25d28d21", func := "slotwright/slotwrightkeep.CobsAgain", spec := "cobsAgain", inPlace := ["internal/bytealg.IndexByte", "internal/bytealg.Count", "internal/bytealg.Index"], named := ["internal/bytealg.MaxLen"], apart := false }
def CobsAgainSaid : Prop := cobsAgainRow.holds Try.pinned (OpenSpec.ofChange cobsAgainSpec)

/-- ITS FALSE NEIGHBOUR: 'it returns false'. Refute it at one input. -/
def cobsAgainWrong : ChangeSpec := { name := "cobsAgain", fn := fun _ => fun
  | [d1, d2] => { results := [.lit (.bool false)], args := [d1, d2] }
  | _ => none }
def CobsAgainWrongFalsely : Prop := cobsAgainRow.holds Try.pinned (OpenSpec.ofChange cobsAgainWrong)

/-- 'slotwrightkeep.CobsShort': WHATEVER THE INPUT: true; the input reads as it did. -/
def cobsShortSpec : ChangeSpec := { name := "cobsShort", fn := fun _ => fun
  | [d] => { results := [.lit (.bool true)], args := [d] }
  | _ => none }
def cobsShortRow : OpenClaim := { program := "ytmehdlnhllafaaa", sum := "501664a0e2048448fb40134290c1f54f88af7345e0433e16c0618d8d25d28d21", func := "slotwright/slotwrightkeep.CobsShort", spec := "cobsShort", inPlace := ["internal/bytealg.IndexByte", "internal/bytealg.Count", "internal/bytealg.Index"], named := ["internal/bytealg.MaxLen"], apart := false }
def CobsShortSaid : Prop := cobsShortRow.holds Try.pinned (OpenSpec.ofChange cobsShortSpec)

/-- ITS FALSE NEIGHBOUR: 'it returns false'. Refute it at one input. -/
def cobsShortWrong : ChangeSpec := { name := "cobsShort", fn := fun _ => fun
  | [d] => { results := [.lit (.bool false)], args := [d] }
  | _ => none }
def CobsShortWrongFalsely : Prop := cobsShortRow.holds Try.pinned (OpenSpec.ofChange cobsShortWrong)

/- THE SECOND FORM. 'bulk': how many values and letters a reading holds, each counted each time it is reached (what is shared counts as often as it is met; a slice's spare places count too). A statement '..UptoSaid' is the law's where the arguments, and the package variables that the reading takes, are together of bulk at most 1048576: NARROWER than '..Said'. Prove '..Said' where nothing that the law and all that it calls make is longer than what came in: it says more and counts as full. Else prove '..UptoSaid'. A law counts once. -/
mutual
def uptoBulk {H : Type} : DataW H → Nat
  | .lit (.string bytes) => bytes.length + 1
  | .lit _ => 1
  | .nil => 1
  | .ptr d => uptoBulk d + 1
  | .slice elems spare => uptoBulkAll elems + uptoBulkAll spare + 1
  | .agg parts => uptoBulkAll parts + 1
  | .iface _ d => uptoBulk d + 1
  | .map entries => uptoBulkEntries entries + 1
  | .held _ => 1
def uptoBulkAll {H : Type} : List (DataW H) → Nat
  | [] => 0
  | d :: r => uptoBulk d + uptoBulkAll r
def uptoBulkEntries {H : Type} : List (Lit × DataW H) → Nat
  | [] => 0
  | x :: r => uptoBulkEntry x + uptoBulkEntries r
def uptoBulkEntry {H : Type} : Lit × DataW H → Nat
  | (.string bytes, d) => bytes.length + uptoBulk d + 1
  | (_, d) => uptoBulk d + 1
 end
def uptoSmall : (H : Type) → List (DataW H) → Bool := fun _ ds => decide (uptoBulkAll ds ≤ 1048576)
def OpenSpec.upto (s : _root_.Go.ChangeSpec) : _root_.Go.OpenSpec := { _root_.Go.OpenSpec.ofChange s with cond := some uptoSmall }

/-- 'slotwrightlaw.CobsTells', WHERE WHAT IT READS IS OF BULK AT MOST 1048576: true; the input reads as it did. -/
def cobsTellsUptoRow : OpenClaim := { program := "ytmehdlnhllafaaa", sum := "501664a0e2048448fb40134290c1f54f88af7345e0433e16c0618d8d25d28d21", func := "slotwright/slotwrightlaw.CobsTells", spec := "cobsTells", inPlace := ["internal/bytealg.IndexByte", "internal/bytealg.Count", "internal/bytealg.Index"], named := ["internal/bytealg.MaxLen"], apart := false, narrowed := true }
def CobsTellsUptoSaid : Prop := cobsTellsUptoRow.holds Try.pinned (OpenSpec.upto cobsTellsSpec)

/-- 'slotwrightkeep.CobsBack', WHERE WHAT IT READS IS OF BULK AT MOST 1048576: true; the input reads as it did. -/
def cobsBackUptoRow : OpenClaim := { program := "ytmehdlnhllafaaa", sum := "501664a0e2048448fb40134290c1f54f88af7345e0433e16c0618d8d25d28d21", func := "slotwright/slotwrightkeep.CobsBack", spec := "cobsBack", inPlace := ["internal/bytealg.IndexByte", "internal/bytealg.Count", "internal/bytealg.Index"], named := ["internal/bytealg.MaxLen"], apart := false, narrowed := true }
def CobsBackUptoSaid : Prop := cobsBackUptoRow.holds Try.pinned (OpenSpec.upto cobsBackSpec)

/-- 'slotwrightkeep.CobsGrows', WHERE WHAT IT READS IS OF BULK AT MOST 1048576: true; the input reads as it did. -/
def cobsGrowsUptoRow : OpenClaim := { program := "ytmehdlnhllafaaa", sum := "501664a0e2048448fb40134290c1f54f88af7345e0433e16c0618d8d25d28d21", func := "slotwright/slotwrightkeep.CobsGrows", spec := "cobsGrows", inPlace := ["internal/bytealg.IndexByte", "internal/bytealg.Count", "internal/bytealg.Index"], named := ["internal/bytealg.MaxLen"], apart := false, narrowed := true }
def CobsGrowsUptoSaid : Prop := cobsGrowsUptoRow.holds Try.pinned (OpenSpec.upto cobsGrowsSpec)

/-- 'slotwrightkeep.CobsParts', WHERE WHAT IT READS IS OF BULK AT MOST 1048576: true; the input reads as it did. -/
def cobsPartsUptoRow : OpenClaim := { program := "ytmehdlnhllafaaa", sum := "501664a0e2048448fb40134290c1f54f88af7345e0433e16c0618d8d25d28d21", func := "slotwright/slotwrightkeep.CobsParts", spec := "cobsParts", inPlace := ["internal/bytealg.IndexByte", "internal/bytealg.Count", "internal/bytealg.Index"], named := ["internal/bytealg.MaxLen"], apart := false, narrowed := true }
def CobsPartsUptoSaid : Prop := cobsPartsUptoRow.holds Try.pinned (OpenSpec.upto cobsPartsSpec)

/-- 'slotwrightkeep.CobsAgain', WHERE WHAT IT READS IS OF BULK AT MOST 1048576: true; the input reads as it did. -/
def cobsAgainUptoRow : OpenClaim := { program := "ytmehdlnhllafaaa", sum := "501664a0e2048448fb40134290c1f54f88af7345e0433e16c0618d8d25d28d21", func := "slotwright/slotwrightkeep.CobsAgain", spec := "cobsAgain", inPlace := ["internal/bytealg.IndexByte", "internal/bytealg.Count", "internal/bytealg.Index"], named := ["internal/bytealg.MaxLen"], apart := false, narrowed := true }
def CobsAgainUptoSaid : Prop := cobsAgainUptoRow.holds Try.pinned (OpenSpec.upto cobsAgainSpec)

/-- 'slotwrightkeep.CobsShort', WHERE WHAT IT READS IS OF BULK AT MOST 1048576: true; the input reads as it did. -/
def cobsShortUptoRow : OpenClaim := { program := "ytmehdlnhllafaaa", sum := "501664a0e2048448fb40134290c1f54f88af7345e0433e16c0618d8d25d28d21", func := "slotwright/slotwrightkeep.CobsShort", spec := "cobsShort", inPlace := ["internal/bytealg.IndexByte", "internal/bytealg.Count", "internal/bytealg.Index"], named := ["internal/bytealg.MaxLen"], apart := false, narrowed := true }
def CobsShortUptoSaid : Prop := cobsShortUptoRow.holds Try.pinned (OpenSpec.upto cobsShortSpec)

end Rows
end Go.Proofs.Ytmehdlnhllafaaa
