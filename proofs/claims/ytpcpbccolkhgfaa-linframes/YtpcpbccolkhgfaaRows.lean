/-
  No cell of these rows narrows 'for every input' (looked for: loops, veiled, ifaces, maps, wideKeys, modest, calm, conditions, laid).
  DERIVED. THE GIVEN ROWS OF THIS SEAT. 6 by the template 'for every input the law returns true; each argument reads behind the call as it read before'; 0 by the template 'total and deterministic' (their statements: YtpcpbccolkhgfaaTotals.lean).
  GIVEN WITH THE SEED: the statements are not yours to turn. If you find one false, say at which input.
  Laid BY PROGRAM, IN A SANDBOX (cutbox-rows.mjs): the forced cells as the released guide's own fill.sh prints them over the translation bed85facf60a7c30… (all of the seat's roots in one cut). By AI agents, Wed Nov 11 2026. No macro, syntax, notation, axiom, sorry.
-/
import Derived.Test.YtpcpbccolkhgfaaChecked
import GoSem.Claim
import GoSem.ClaimJoined
import GoSem.ClaimMapViews
import Derived.JoinedTies
import Derived.KernelRfl
namespace Go.Proofs.Ytpcpbccolkhgfaa
/- THE CELL 'sum', in the pinned program and in every row, IS THE sha256 OF THE DUMP (.gsa) THAT YtpcpbccolkhgfaaProg.lean LOADS. Nothing in Lean hashes anything: it is a label: what it is worth is what the hold of that sum in a sandbox is worth. -/
noncomputable def Try.pinned : Pinned := { name := "ytpcpbccolkhgfaa", sum := "bed85facf60a7c309c0ad25b49121f820cd8770d0553bf862fd7fbc899311735", checked := Try.checked }
namespace Rows
def none {H : Type} : Left H := { results := [], args := [] }

/-- 'slotwrightlaw.LinTells': WHATEVER THE INPUT: true; the input reads as it did. -/
def linTellsSpec : ChangeSpec := { name := "linTells", fn := fun _ => fun
  | [d1, d2, d3] => { results := [.lit (.bool true)], args := [d1, d2, d3] }
  | _ => none }
def linTellsRow : OpenClaim := { program := "ytpcpbccolkhgfaa", sum := "bed85facf60a7c309c0ad25b49121f820cd8770d0553bf862fd7fbc899311735", func := "slotwright/slotwrightlaw.LinTells", spec := "linTells", unfollowed := true, recurses := true, apart := false }
def LinTellsSaid : Prop := linTellsRow.holds Try.pinned (OpenSpec.ofChange linTellsSpec)

/-- ITS FALSE NEIGHBOUR: 'it returns false'. Refute it at one input. -/
def linTellsWrong : ChangeSpec := { name := "linTells", fn := fun _ => fun
  | [d1, d2, d3] => { results := [.lit (.bool false)], args := [d1, d2, d3] }
  | _ => none }
def LinTellsWrongFalsely : Prop := linTellsRow.holds Try.pinned (OpenSpec.ofChange linTellsWrong)

/-- 'slotwrightlaw.LinFrames': WHATEVER THE INPUT: true; the input reads as it did. -/
def linFramesSpec : ChangeSpec := { name := "linFrames", fn := fun _ => fun
  | [d1, d2, d3] => { results := [.lit (.bool true)], args := [d1, d2, d3] }
  | _ => none }
def linFramesRow : OpenClaim := { program := "ytpcpbccolkhgfaa", sum := "bed85facf60a7c309c0ad25b49121f820cd8770d0553bf862fd7fbc899311735", func := "slotwright/slotwrightlaw.LinFrames", spec := "linFrames", unfollowed := true, recurses := true, apart := false }
def LinFramesSaid : Prop := linFramesRow.holds Try.pinned (OpenSpec.ofChange linFramesSpec)

/-- ITS FALSE NEIGHBOUR: 'it returns false'. Refute it at one input. -/
def linFramesWrong : ChangeSpec := { name := "linFrames", fn := fun _ => fun
  | [d1, d2, d3] => { results := [.lit (.bool false)], args := [d1, d2, d3] }
  | _ => none }
def LinFramesWrongFalsely : Prop := linFramesRow.holds Try.pinned (OpenSpec.ofChange linFramesWrong)

/-- 'slotwrightkeep.LinGuard': WHATEVER THE INPUT: true; the input reads as it did. -/
def linGuardSpec : ChangeSpec := { name := "linGuard", fn := fun _ => fun
  | [d1, d2] => { results := [.lit (.bool true)], args := [d1, d2] }
  | _ => none }
def linGuardRow : OpenClaim := { program := "ytpcpbccolkhgfaa", sum := "bed85facf60a7c309c0ad25b49121f820cd8770d0553bf862fd7fbc899311735", func := "slotwright/slotwrightkeep.LinGuard", spec := "linGuard", apart := false }
def LinGuardSaid : Prop := linGuardRow.holds Try.pinned (OpenSpec.ofChange linGuardSpec)

/-- ITS FALSE NEIGHBOUR: 'it returns false'. Refute it at one input. -/
def linGuardWrong : ChangeSpec := { name := "linGuard", fn := fun _ => fun
  | [d1, d2] => { results := [.lit (.bool false)], args := [d1, d2] }
  | _ => none }
def LinGuardWrongFalsely : Prop := linGuardRow.holds Try.pinned (OpenSpec.ofChange linGuardWrong)

/-- 'slotwrightkeep.LinBack': WHATEVER THE INPUT: true; the input reads as it did. -/
def linBackSpec : ChangeSpec := { name := "linBack", fn := fun _ => fun
  | [d1, d2, d3] => { results := [.lit (.bool true)], args := [d1, d2, d3] }
  | _ => none }
def linBackRow : OpenClaim := { program := "ytpcpbccolkhgfaa", sum := "bed85facf60a7c309c0ad25b49121f820cd8770d0553bf862fd7fbc899311735", func := "slotwright/slotwrightkeep.LinBack", spec := "linBack", apart := false }
def LinBackSaid : Prop := linBackRow.holds Try.pinned (OpenSpec.ofChange linBackSpec)

/-- ITS FALSE NEIGHBOUR: 'it returns false'. Refute it at one input. -/
def linBackWrong : ChangeSpec := { name := "linBack", fn := fun _ => fun
  | [d1, d2, d3] => { results := [.lit (.bool false)], args := [d1, d2, d3] }
  | _ => none }
def LinBackWrongFalsely : Prop := linBackRow.holds Try.pinned (OpenSpec.ofChange linBackWrong)

/-- 'slotwrightkeep.LinWrong': WHATEVER THE INPUT: true; the input reads as it did. -/
def linWrongSpec : ChangeSpec := { name := "linWrong", fn := fun _ => fun
  | [d1, d2, d3, d4] => { results := [.lit (.bool true)], args := [d1, d2, d3, d4] }
  | _ => none }
def linWrongRow : OpenClaim := { program := "ytpcpbccolkhgfaa", sum := "bed85facf60a7c309c0ad25b49121f820cd8770d0553bf862fd7fbc899311735", func := "slotwright/slotwrightkeep.LinWrong", spec := "linWrong", apart := false }
def LinWrongSaid : Prop := linWrongRow.holds Try.pinned (OpenSpec.ofChange linWrongSpec)

/-- ITS FALSE NEIGHBOUR: 'it returns false'. Refute it at one input. -/
def linWrongWrong : ChangeSpec := { name := "linWrong", fn := fun _ => fun
  | [d1, d2, d3, d4] => { results := [.lit (.bool false)], args := [d1, d2, d3, d4] }
  | _ => none }
def LinWrongWrongFalsely : Prop := linWrongRow.holds Try.pinned (OpenSpec.ofChange linWrongWrong)

/-- 'slotwrightkeep.LinOrder': WHATEVER THE INPUT: true; the input reads as it did. -/
def linOrderSpec : ChangeSpec := { name := "linOrder", fn := fun _ => fun
  | [d] => { results := [.lit (.bool true)], args := [d] }
  | _ => none }
def linOrderRow : OpenClaim := { program := "ytpcpbccolkhgfaa", sum := "bed85facf60a7c309c0ad25b49121f820cd8770d0553bf862fd7fbc899311735", func := "slotwright/slotwrightkeep.LinOrder", spec := "linOrder", apart := false }
def LinOrderSaid : Prop := linOrderRow.holds Try.pinned (OpenSpec.ofChange linOrderSpec)

/-- ITS FALSE NEIGHBOUR: 'it returns false'. Refute it at one input. -/
def linOrderWrong : ChangeSpec := { name := "linOrder", fn := fun _ => fun
  | [d] => { results := [.lit (.bool false)], args := [d] }
  | _ => none }
def LinOrderWrongFalsely : Prop := linOrderRow.holds Try.pinned (OpenSpec.ofChange linOrderWrong)

/- THE SECOND FORM. 'bulk': how many values and letters a reading holds, each counted each time it is reached (what is shared counts as often as it is met; a slice's spare places count too). A statement '..UptoSaid' is the law's where the arguments, and the package variables that the reading takes, are together of bulk at most 1048576: NARROWER than '..Said'. Prove '..Said' where nothing that the law and all that it calls make is longer than what came in: it says more and counts as full. Else prove '..UptoSaid'. A law counts once. -/
mutual
def uptoBulk {H : Type} : DataW H → Nat
  | .lit (.string bytes) => bytes.length + 1
  | .lit _ => 1
  | .nil => 1
  | .ptr d => uptoBulk d + 1
  | .slice elems spare => uptoBulkAll elems + uptoBulkAll spare + 1
  | .agg parts => uptoBulkAll parts + 1
  | .iface _ d => uptoBulk d + 1
  | .map entries => uptoBulkEntries entries + 1
  | .held _ => 1
def uptoBulkAll {H : Type} : List (DataW H) → Nat
  | [] => 0
  | d :: r => uptoBulk d + uptoBulkAll r
def uptoBulkEntries {H : Type} : List (Lit × DataW H) → Nat
  | [] => 0
  | x :: r => uptoBulkEntry x + uptoBulkEntries r
def uptoBulkEntry {H : Type} : Lit × DataW H → Nat
  | (.string bytes, d) => bytes.length + uptoBulk d + 1
  | (_, d) => uptoBulk d + 1
 end
def uptoSmall : (H : Type) → List (DataW H) → Bool := fun _ ds => decide (uptoBulkAll ds ≤ 1048576)
def OpenSpec.upto (s : _root_.Go.ChangeSpec) : _root_.Go.OpenSpec := { _root_.Go.OpenSpec.ofChange s with cond := some uptoSmall }

/-- 'slotwrightlaw.LinTells', WHERE WHAT IT READS IS OF BULK AT MOST 1048576: true; the input reads as it did. -/
def linTellsUptoRow : OpenClaim := { program := "ytpcpbccolkhgfaa", sum := "bed85facf60a7c309c0ad25b49121f820cd8770d0553bf862fd7fbc899311735", func := "slotwright/slotwrightlaw.LinTells", spec := "linTells", unfollowed := true, recurses := true, apart := false, narrowed := true }
def LinTellsUptoSaid : Prop := linTellsUptoRow.holds Try.pinned (OpenSpec.upto linTellsSpec)

/-- 'slotwrightlaw.LinFrames', WHERE WHAT IT READS IS OF BULK AT MOST 1048576: true; the input reads as it did. -/
def linFramesUptoRow : OpenClaim := { program := "ytpcpbccolkhgfaa", sum := "bed85facf60a7c309c0ad25b49121f820cd8770d0553bf862fd7fbc899311735", func := "slotwright/slotwrightlaw.LinFrames", spec := "linFrames", unfollowed := true, recurses := true, apart := false, narrowed := true }
def LinFramesUptoSaid : Prop := linFramesUptoRow.holds Try.pinned (OpenSpec.upto linFramesSpec)

/-- 'slotwrightkeep.LinGuard', WHERE WHAT IT READS IS OF BULK AT MOST 1048576: true; the input reads as it did. -/
def linGuardUptoRow : OpenClaim := { program := "ytpcpbccolkhgfaa", sum := "bed85facf60a7c309c0ad25b49121f820cd8770d0553bf862fd7fbc899311735", func := "slotwright/slotwrightkeep.LinGuard", spec := "linGuard", apart := false, narrowed := true }
def LinGuardUptoSaid : Prop := linGuardUptoRow.holds Try.pinned (OpenSpec.upto linGuardSpec)

/-- 'slotwrightkeep.LinBack', WHERE WHAT IT READS IS OF BULK AT MOST 1048576: true; the input reads as it did. -/
def linBackUptoRow : OpenClaim := { program := "ytpcpbccolkhgfaa", sum := "bed85facf60a7c309c0ad25b49121f820cd8770d0553bf862fd7fbc899311735", func := "slotwright/slotwrightkeep.LinBack", spec := "linBack", apart := false, narrowed := true }
def LinBackUptoSaid : Prop := linBackUptoRow.holds Try.pinned (OpenSpec.upto linBackSpec)

/-- 'slotwrightkeep.LinWrong', WHERE WHAT IT READS IS OF BULK AT MOST 1048576: true; the input reads as it did. -/
def linWrongUptoRow : OpenClaim := { program := "ytpcpbccolkhgfaa", sum := "bed85facf60a7c309c0ad25b49121f820cd8770d0553bf862fd7fbc899311735", func := "slotwright/slotwrightkeep.LinWrong", spec := "linWrong", apart := false, narrowed := true }
def LinWrongUptoSaid : Prop := linWrongUptoRow.holds Try.pinned (OpenSpec.upto linWrongSpec)

/-- 'slotwrightkeep.LinOrder', WHERE WHAT IT READS IS OF BULK AT MOST 1048576: true; the input reads as it did. -/
def linOrderUptoRow : OpenClaim := { program := "ytpcpbccolkhgfaa", sum := "bed85facf60a7c309c0ad25b49121f820cd8770d0553bf862fd7fbc899311735", func := "slotwright/slotwrightkeep.LinOrder", spec := "linOrder", apart := false, narrowed := true }
def LinOrderUptoSaid : Prop := linOrderUptoRow.holds Try.pinned (OpenSpec.upto linOrderSpec)

end Rows
end Go.Proofs.Ytpcpbccolkhgfaa
