/-
  No cell of these rows narrows 'for every input' (looked for: loops, veiled, ifaces, maps, wideKeys, modest, calm, conditions, laid).
  DERIVED. THE GIVEN ROWS OF THIS SEAT. 6 by the template 'for every input the law returns true; each argument reads behind the call as it read before'; 0 by the template 'total and deterministic' (their statements: YtpangandpabajaaTotals.lean).
  GIVEN WITH THE SEED: the statements are not yours to turn. If you find one false, say at which input.
  Laid BY PROGRAM, IN A SANDBOX (cutbox-rows.mjs): the forced cells as the released guide's own fill.sh prints them over the translation 8b1a7ee9fda5322b… (all of the seat's roots in one cut). By AI agents, Wed Nov 11 2026. No macro, syntax, notation, axiom, sorry.
-/
import Derived.Test.YtpangandpabajaaChecked
import GoSem.Claim
import GoSem.ClaimJoined
import GoSem.ClaimMapViews
import Derived.JoinedTies
import Derived.KernelRfl
namespace Go.Proofs.Ytpangandpabajaa
/- THE CELL 'sum', in the pinned program and in every row, IS THE sha256 OF THE DUMP (.gsa) THAT YtpangandpabajaaProg.lean LOADS. Nothing in Lean hashes anything: it is a label: what it is worth is what the hold of that sum in a sandbox is worth. -/
noncomputable def Try.pinned : Pinned := { name := "ytpangandpabajaa", sum := "8b1a7ee9fda5322bc102759b8ecbd8adf4b0229f1b6f7401d384a0adc9b1739f", checked := Try.checked }
namespace Rows
def none {H : Type} : Left H := { results := [], args := [] }

/-- 'slotwrightlaw.SlotsTell': WHATEVER THE INPUT: true; the input reads as it did. -/
def slotsTellSpec : ChangeSpec := { name := "slotsTell", fn := fun _ => fun
  | [d1, d2, d3, d4] => { results := [.lit (.bool true)], args := [d1, d2, d3, d4] }
  | _ => none }
def slotsTellRow : OpenClaim := { program := "ytpangandpabajaa", sum := "8b1a7ee9fda5322bc102759b8ecbd8adf4b0229f1b6f7401d384a0adc9b1739f", func := "slotwright/slotwrightlaw.SlotsTell", spec := "slotsTell", apart := false }
def SlotsTellSaid : Prop := slotsTellRow.holds Try.pinned (OpenSpec.ofChange slotsTellSpec)

/-- ITS FALSE NEIGHBOUR: 'it returns false'. Refute it at one input. -/
def slotsTellWrong : ChangeSpec := { name := "slotsTell", fn := fun _ => fun
  | [d1, d2, d3, d4] => { results := [.lit (.bool false)], args := [d1, d2, d3, d4] }
  | _ => none }
def SlotsTellWrongFalsely : Prop := slotsTellRow.holds Try.pinned (OpenSpec.ofChange slotsTellWrong)

/-- 'slotwrightlaw.SlotsWait': WHATEVER THE INPUT: true; the input reads as it did. -/
def slotsWaitSpec : ChangeSpec := { name := "slotsWait", fn := fun _ => fun
  | [d1, d2, d3] => { results := [.lit (.bool true)], args := [d1, d2, d3] }
  | _ => none }
def slotsWaitRow : OpenClaim := { program := "ytpangandpabajaa", sum := "8b1a7ee9fda5322bc102759b8ecbd8adf4b0229f1b6f7401d384a0adc9b1739f", func := "slotwright/slotwrightlaw.SlotsWait", spec := "slotsWait", apart := false }
def SlotsWaitSaid : Prop := slotsWaitRow.holds Try.pinned (OpenSpec.ofChange slotsWaitSpec)

/-- ITS FALSE NEIGHBOUR: 'it returns false'. Refute it at one input. -/
def slotsWaitWrong : ChangeSpec := { name := "slotsWait", fn := fun _ => fun
  | [d1, d2, d3] => { results := [.lit (.bool false)], args := [d1, d2, d3] }
  | _ => none }
def SlotsWaitWrongFalsely : Prop := slotsWaitRow.holds Try.pinned (OpenSpec.ofChange slotsWaitWrong)

/-- 'slotwrightkeep.SlotsOne': WHATEVER THE INPUT: true; the input reads as it did. -/
def slotsOneSpec : ChangeSpec := { name := "slotsOne", fn := fun _ => fun
  | [d1, d2, d3] => { results := [.lit (.bool true)], args := [d1, d2, d3] }
  | _ => none }
def slotsOneRow : OpenClaim := { program := "ytpangandpabajaa", sum := "8b1a7ee9fda5322bc102759b8ecbd8adf4b0229f1b6f7401d384a0adc9b1739f", func := "slotwright/slotwrightkeep.SlotsOne", spec := "slotsOne", apart := false }
def SlotsOneSaid : Prop := slotsOneRow.holds Try.pinned (OpenSpec.ofChange slotsOneSpec)

/-- ITS FALSE NEIGHBOUR: 'it returns false'. Refute it at one input. -/
def slotsOneWrong : ChangeSpec := { name := "slotsOne", fn := fun _ => fun
  | [d1, d2, d3] => { results := [.lit (.bool false)], args := [d1, d2, d3] }
  | _ => none }
def SlotsOneWrongFalsely : Prop := slotsOneRow.holds Try.pinned (OpenSpec.ofChange slotsOneWrong)

/-- 'slotwrightkeep.SlotsNext': WHATEVER THE INPUT: true; the input reads as it did. -/
def slotsNextSpec : ChangeSpec := { name := "slotsNext", fn := fun _ => fun
  | [d1, d2, d3, d4] => { results := [.lit (.bool true)], args := [d1, d2, d3, d4] }
  | _ => none }
def slotsNextRow : OpenClaim := { program := "ytpangandpabajaa", sum := "8b1a7ee9fda5322bc102759b8ecbd8adf4b0229f1b6f7401d384a0adc9b1739f", func := "slotwright/slotwrightkeep.SlotsNext", spec := "slotsNext", apart := false }
def SlotsNextSaid : Prop := slotsNextRow.holds Try.pinned (OpenSpec.ofChange slotsNextSpec)

/-- ITS FALSE NEIGHBOUR: 'it returns false'. Refute it at one input. -/
def slotsNextWrong : ChangeSpec := { name := "slotsNext", fn := fun _ => fun
  | [d1, d2, d3, d4] => { results := [.lit (.bool false)], args := [d1, d2, d3, d4] }
  | _ => none }
def SlotsNextWrongFalsely : Prop := slotsNextRow.holds Try.pinned (OpenSpec.ofChange slotsNextWrong)

/-- 'slotwrightkeep.SlotsShare': WHATEVER THE INPUT: true; the input reads as it did. -/
def slotsShareSpec : ChangeSpec := { name := "slotsShare", fn := fun _ => fun
  | [d1, d2] => { results := [.lit (.bool true)], args := [d1, d2] }
  | _ => none }
def slotsShareRow : OpenClaim := { program := "ytpangandpabajaa", sum := "8b1a7ee9fda5322bc102759b8ecbd8adf4b0229f1b6f7401d384a0adc9b1739f", func := "slotwright/slotwrightkeep.SlotsShare", spec := "slotsShare", apart := false }
def SlotsShareSaid : Prop := slotsShareRow.holds Try.pinned (OpenSpec.ofChange slotsShareSpec)

/-- ITS FALSE NEIGHBOUR: 'it returns false'. Refute it at one input. -/
def slotsShareWrong : ChangeSpec := { name := "slotsShare", fn := fun _ => fun
  | [d1, d2] => { results := [.lit (.bool false)], args := [d1, d2] }
  | _ => none }
def SlotsShareWrongFalsely : Prop := slotsShareRow.holds Try.pinned (OpenSpec.ofChange slotsShareWrong)

/-- 'slotwrightkeep.SlotsLess': WHATEVER THE INPUT: true; the input reads as it did. -/
def slotsLessSpec : ChangeSpec := { name := "slotsLess", fn := fun _ => fun
  | [d1, d2, d3, d4] => { results := [.lit (.bool true)], args := [d1, d2, d3, d4] }
  | _ => none }
def slotsLessRow : OpenClaim := { program := "ytpangandpabajaa", sum := "8b1a7ee9fda5322bc102759b8ecbd8adf4b0229f1b6f7401d384a0adc9b1739f", func := "slotwright/slotwrightkeep.SlotsLess", spec := "slotsLess", apart := false }
def SlotsLessSaid : Prop := slotsLessRow.holds Try.pinned (OpenSpec.ofChange slotsLessSpec)

/-- ITS FALSE NEIGHBOUR: 'it returns false'. Refute it at one input. -/
def slotsLessWrong : ChangeSpec := { name := "slotsLess", fn := fun _ => fun
  | [d1, d2, d3, d4] => { results := [.lit (.bool false)], args := [d1, d2, d3, d4] }
  | _ => none }
def SlotsLessWrongFalsely : Prop := slotsLessRow.holds Try.pinned (OpenSpec.ofChange slotsLessWrong)

/- THE SECOND FORM. 'bulk': how many values and letters a reading holds, each counted each time it is reached (what is shared counts as often as it is met; a slice's spare places count too). A statement '..UptoSaid' is the law's where the arguments, and the package variables that the reading takes, are together of bulk at most 1048576: NARROWER than '..Said'. Prove '..Said' where nothing that the law and all that it calls make is longer than what came in: it says more and counts as full. Else prove '..UptoSaid'. A law counts once. -/
mutual
def uptoBulk {H : Type} : DataW H → Nat
  | .lit (.string bytes) => bytes.length + 1
  | .lit _ => 1
  | .nil => 1
  | .ptr d => uptoBulk d + 1
  | .slice elems spare => uptoBulkAll elems + uptoBulkAll spare + 1
  | .agg parts => uptoBulkAll parts + 1
  | .iface _ d => uptoBulk d + 1
  | .map entries => uptoBulkEntries entries + 1
  | .held _ => 1
def uptoBulkAll {H : Type} : List (DataW H) → Nat
  | [] => 0
  | d :: r => uptoBulk d + uptoBulkAll r
def uptoBulkEntries {H : Type} : List (Lit × DataW H) → Nat
  | [] => 0
  | x :: r => uptoBulkEntry x + uptoBulkEntries r
def uptoBulkEntry {H : Type} : Lit × DataW H → Nat
  | (.string bytes, d) => bytes.length + uptoBulk d + 1
  | (_, d) => uptoBulk d + 1
 end
def uptoSmall : (H : Type) → List (DataW H) → Bool := fun _ ds => decide (uptoBulkAll ds ≤ 1048576)
def OpenSpec.upto (s : _root_.Go.ChangeSpec) : _root_.Go.OpenSpec := { _root_.Go.OpenSpec.ofChange s with cond := some uptoSmall }

/-- 'slotwrightlaw.SlotsTell', WHERE WHAT IT READS IS OF BULK AT MOST 1048576: true; the input reads as it did. -/
def slotsTellUptoRow : OpenClaim := { program := "ytpangandpabajaa", sum := "8b1a7ee9fda5322bc102759b8ecbd8adf4b0229f1b6f7401d384a0adc9b1739f", func := "slotwright/slotwrightlaw.SlotsTell", spec := "slotsTell", apart := false, narrowed := true }
def SlotsTellUptoSaid : Prop := slotsTellUptoRow.holds Try.pinned (OpenSpec.upto slotsTellSpec)

/-- 'slotwrightlaw.SlotsWait', WHERE WHAT IT READS IS OF BULK AT MOST 1048576: true; the input reads as it did. -/
def slotsWaitUptoRow : OpenClaim := { program := "ytpangandpabajaa", sum := "8b1a7ee9fda5322bc102759b8ecbd8adf4b0229f1b6f7401d384a0adc9b1739f", func := "slotwright/slotwrightlaw.SlotsWait", spec := "slotsWait", apart := false, narrowed := true }
def SlotsWaitUptoSaid : Prop := slotsWaitUptoRow.holds Try.pinned (OpenSpec.upto slotsWaitSpec)

/-- 'slotwrightkeep.SlotsOne', WHERE WHAT IT READS IS OF BULK AT MOST 1048576: true; the input reads as it did. -/
def slotsOneUptoRow : OpenClaim := { program := "ytpangandpabajaa", sum := "8b1a7ee9fda5322bc102759b8ecbd8adf4b0229f1b6f7401d384a0adc9b1739f", func := "slotwright/slotwrightkeep.SlotsOne", spec := "slotsOne", apart := false, narrowed := true }
def SlotsOneUptoSaid : Prop := slotsOneUptoRow.holds Try.pinned (OpenSpec.upto slotsOneSpec)

/-- 'slotwrightkeep.SlotsNext', WHERE WHAT IT READS IS OF BULK AT MOST 1048576: true; the input reads as it did. -/
def slotsNextUptoRow : OpenClaim := { program := "ytpangandpabajaa", sum := "8b1a7ee9fda5322bc102759b8ecbd8adf4b0229f1b6f7401d384a0adc9b1739f", func := "slotwright/slotwrightkeep.SlotsNext", spec := "slotsNext", apart := false, narrowed := true }
def SlotsNextUptoSaid : Prop := slotsNextUptoRow.holds Try.pinned (OpenSpec.upto slotsNextSpec)

/-- 'slotwrightkeep.SlotsShare', WHERE WHAT IT READS IS OF BULK AT MOST 1048576: true; the input reads as it did. -/
def slotsShareUptoRow : OpenClaim := { program := "ytpangandpabajaa", sum := "8b1a7ee9fda5322bc102759b8ecbd8adf4b0229f1b6f7401d384a0adc9b1739f", func := "slotwright/slotwrightkeep.SlotsShare", spec := "slotsShare", apart := false, narrowed := true }
def SlotsShareUptoSaid : Prop := slotsShareUptoRow.holds Try.pinned (OpenSpec.upto slotsShareSpec)

/-- 'slotwrightkeep.SlotsLess', WHERE WHAT IT READS IS OF BULK AT MOST 1048576: true; the input reads as it did. -/
def slotsLessUptoRow : OpenClaim := { program := "ytpangandpabajaa", sum := "8b1a7ee9fda5322bc102759b8ecbd8adf4b0229f1b6f7401d384a0adc9b1739f", func := "slotwright/slotwrightkeep.SlotsLess", spec := "slotsLess", apart := false, narrowed := true }
def SlotsLessUptoSaid : Prop := slotsLessUptoRow.holds Try.pinned (OpenSpec.upto slotsLessSpec)

end Rows
end Go.Proofs.Ytpangandpabajaa
