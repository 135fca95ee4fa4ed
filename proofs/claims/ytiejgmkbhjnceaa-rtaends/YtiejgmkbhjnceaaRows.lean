/-
  No cell of these rows narrows 'for every input' (looked for: loops, veiled, ifaces, maps, wideKeys, modest, calm, conditions, laid).
  DERIVED. THE GIVEN ROWS OF THIS SEAT. 5 by the template 'for every input the law returns true; each argument reads behind the call as it read before'; 0 by the template 'total and deterministic' (their statements: YtiejgmkbhjnceaaTotals.lean).
  GIVEN WITH THE SEED: the statements are not yours to turn. If you find one false, say at which input.
  Laid BY PROGRAM, IN A SANDBOX (cutbox-rows.mjs): the forced cells as the released guide's own fill.sh prints them over the translation 818b14e3619093aa… (all of the seat's roots in one cut). By AI agents, Wed Nov 11 2026. No macro, syntax, notation, axiom, sorry.
-/
import Derived.Test.YtiejgmkbhjnceaaChecked
import GoSem.Claim
import GoSem.ClaimJoined
import GoSem.ClaimMapViews
import Derived.JoinedTies
import Derived.KernelRfl
namespace Go.Proofs.Ytiejgmkbhjnceaa
/- THE CELL 'sum', in the pinned program and in every row, IS THE sha256 OF THE DUMP (.gsa) THAT YtiejgmkbhjnceaaProg.lean LOADS. Nothing in Lean hashes anything: it is a label: what it is worth is what the hold of that sum in a sandbox is worth. -/
noncomputable def Try.pinned : Pinned := { name := "ytiejgmkbhjnceaa", sum := "818b14e3619093aa1f56f4b94e003a567e6a595d16752f29e56e1031c02dd577", checked := Try.checked }
namespace Rows
def none {H : Type} : Left H := { results := [], args := [] }

/-- 'slotwrightlaw.RtaEnds': WHATEVER THE INPUT: true; the input reads as it did. -/
def rtaEndsSpec : ChangeSpec := { name := "rtaEnds", fn := fun _ => fun
  | [d1, d2] => { results := [.lit (.bool true)], args := [d1, d2] }
  | _ => none }
def rtaEndsRow : OpenClaim := { program := "ytiejgmkbhjnceaa", sum := "818b14e3619093aa1f56f4b94e003a567e6a595d16752f29e56e1031c02dd577", func := "slotwright/slotwrightlaw.RtaEnds", spec := "rtaEnds", unfollowed := true, recurses := true, apart := false }
def RtaEndsSaid : Prop := rtaEndsRow.holds Try.pinned (OpenSpec.ofChange rtaEndsSpec)

/-- ITS FALSE NEIGHBOUR: 'it returns false'. Refute it at one input. -/
def rtaEndsWrong : ChangeSpec := { name := "rtaEnds", fn := fun _ => fun
  | [d1, d2] => { results := [.lit (.bool false)], args := [d1, d2] }
  | _ => none }
def RtaEndsWrongFalsely : Prop := rtaEndsRow.holds Try.pinned (OpenSpec.ofChange rtaEndsWrong)

/-- 'slotwrightkeep.RtaWorst': WHATEVER THE INPUT: true; the input reads as it did. -/
def rtaWorstSpec : ChangeSpec := { name := "rtaWorst", fn := fun _ => fun
  | [d] => { results := [.lit (.bool true)], args := [d] }
  | _ => none }
def rtaWorstRow : OpenClaim := { program := "ytiejgmkbhjnceaa", sum := "818b14e3619093aa1f56f4b94e003a567e6a595d16752f29e56e1031c02dd577", func := "slotwright/slotwrightkeep.RtaWorst", spec := "rtaWorst", unfollowed := true, recurses := true, apart := false }
def RtaWorstSaid : Prop := rtaWorstRow.holds Try.pinned (OpenSpec.ofChange rtaWorstSpec)

/-- ITS FALSE NEIGHBOUR: 'it returns false'. Refute it at one input. -/
def rtaWorstWrong : ChangeSpec := { name := "rtaWorst", fn := fun _ => fun
  | [d] => { results := [.lit (.bool false)], args := [d] }
  | _ => none }
def RtaWorstWrongFalsely : Prop := rtaWorstRow.holds Try.pinned (OpenSpec.ofChange rtaWorstWrong)

/-- 'slotwrightkeep.RtaAll': WHATEVER THE INPUT: true; the input reads as it did. -/
def rtaAllSpec : ChangeSpec := { name := "rtaAll", fn := fun _ => fun
  | [d1, d2] => { results := [.lit (.bool true)], args := [d1, d2] }
  | _ => none }
def rtaAllRow : OpenClaim := { program := "ytiejgmkbhjnceaa", sum := "818b14e3619093aa1f56f4b94e003a567e6a595d16752f29e56e1031c02dd577", func := "slotwright/slotwrightkeep.RtaAll", spec := "rtaAll", unfollowed := true, recurses := true, apart := false }
def RtaAllSaid : Prop := rtaAllRow.holds Try.pinned (OpenSpec.ofChange rtaAllSpec)

/-- ITS FALSE NEIGHBOUR: 'it returns false'. Refute it at one input. -/
def rtaAllWrong : ChangeSpec := { name := "rtaAll", fn := fun _ => fun
  | [d1, d2] => { results := [.lit (.bool false)], args := [d1, d2] }
  | _ => none }
def RtaAllWrongFalsely : Prop := rtaAllRow.holds Try.pinned (OpenSpec.ofChange rtaAllWrong)

/-- 'slotwrightkeep.RtaMore': WHATEVER THE INPUT: true; the input reads as it did. -/
def rtaMoreSpec : ChangeSpec := { name := "rtaMore", fn := fun _ => fun
  | [d1, d2, d3] => { results := [.lit (.bool true)], args := [d1, d2, d3] }
  | _ => none }
def rtaMoreRow : OpenClaim := { program := "ytiejgmkbhjnceaa", sum := "818b14e3619093aa1f56f4b94e003a567e6a595d16752f29e56e1031c02dd577", func := "slotwright/slotwrightkeep.RtaMore", spec := "rtaMore", unfollowed := true, recurses := true, apart := false }
def RtaMoreSaid : Prop := rtaMoreRow.holds Try.pinned (OpenSpec.ofChange rtaMoreSpec)

/-- ITS FALSE NEIGHBOUR: 'it returns false'. Refute it at one input. -/
def rtaMoreWrong : ChangeSpec := { name := "rtaMore", fn := fun _ => fun
  | [d1, d2, d3] => { results := [.lit (.bool false)], args := [d1, d2, d3] }
  | _ => none }
def RtaMoreWrongFalsely : Prop := rtaMoreRow.holds Try.pinned (OpenSpec.ofChange rtaMoreWrong)

/-- 'slotwrightkeep.RtaLast': WHATEVER THE INPUT: true; the input reads as it did. -/
def rtaLastSpec : ChangeSpec := { name := "rtaLast", fn := fun _ => fun
  | [d1, d2] => { results := [.lit (.bool true)], args := [d1, d2] }
  | _ => none }
def rtaLastRow : OpenClaim := { program := "ytiejgmkbhjnceaa", sum := "818b14e3619093aa1f56f4b94e003a567e6a595d16752f29e56e1031c02dd577", func := "slotwright/slotwrightkeep.RtaLast", spec := "rtaLast", unfollowed := true, recurses := true, apart := false }
def RtaLastSaid : Prop := rtaLastRow.holds Try.pinned (OpenSpec.ofChange rtaLastSpec)

/-- ITS FALSE NEIGHBOUR: 'it returns false'. Refute it at one input. -/
def rtaLastWrong : ChangeSpec := { name := "rtaLast", fn := fun _ => fun
  | [d1, d2] => { results := [.lit (.bool false)], args := [d1, d2] }
  | _ => none }
def RtaLastWrongFalsely : Prop := rtaLastRow.holds Try.pinned (OpenSpec.ofChange rtaLastWrong)

/- THE SECOND FORM. 'bulk': how many values and letters a reading holds, each counted each time it is reached (what is shared counts as often as it is met; a slice's spare places count too). A statement '..UptoSaid' is the law's where the arguments, and the package variables that the reading takes, are together of bulk at most 1048576: NARROWER than '..Said'. Prove '..Said' where nothing that the law and all that it calls make is longer than what came in: it says more and counts as full. Else prove '..UptoSaid'. A law counts once. -/
mutual
def uptoBulk {H : Type} : DataW H → Nat
  | .lit (.string bytes) => bytes.length + 1
  | .lit _ => 1
  | .nil => 1
  | .ptr d => uptoBulk d + 1
  | .slice elems spare => uptoBulkAll elems + uptoBulkAll spare + 1
  | .agg parts => uptoBulkAll parts + 1
  | .iface _ d => uptoBulk d + 1
  | .map entries => uptoBulkEntries entries + 1
  | .held _ => 1
def uptoBulkAll {H : Type} : List (DataW H) → Nat
  | [] => 0
  | d :: r => uptoBulk d + uptoBulkAll r
def uptoBulkEntries {H : Type} : List (Lit × DataW H) → Nat
  | [] => 0
  | x :: r => uptoBulkEntry x + uptoBulkEntries r
def uptoBulkEntry {H : Type} : Lit × DataW H → Nat
  | (.string bytes, d) => bytes.length + uptoBulk d + 1
  | (_, d) => uptoBulk d + 1
 end
def uptoSmall : (H : Type) → List (DataW H) → Bool := fun _ ds => decide (uptoBulkAll ds ≤ 1048576)
def OpenSpec.upto (s : _root_.Go.ChangeSpec) : _root_.Go.OpenSpec := { _root_.Go.OpenSpec.ofChange s with cond := some uptoSmall }

/-- 'slotwrightlaw.RtaEnds', WHERE WHAT IT READS IS OF BULK AT MOST 1048576: true; the input reads as it did. -/
def rtaEndsUptoRow : OpenClaim := { program := "ytiejgmkbhjnceaa", sum := "818b14e3619093aa1f56f4b94e003a567e6a595d16752f29e56e1031c02dd577", func := "slotwright/slotwrightlaw.RtaEnds", spec := "rtaEnds", unfollowed := true, recurses := true, apart := false, narrowed := true }
def RtaEndsUptoSaid : Prop := rtaEndsUptoRow.holds Try.pinned (OpenSpec.upto rtaEndsSpec)

/-- 'slotwrightkeep.RtaWorst', WHERE WHAT IT READS IS OF BULK AT MOST 1048576: true; the input reads as it did. -/
def rtaWorstUptoRow : OpenClaim := { program := "ytiejgmkbhjnceaa", sum := "818b14e3619093aa1f56f4b94e003a567e6a595d16752f29e56e1031c02dd577", func := "slotwright/slotwrightkeep.RtaWorst", spec := "rtaWorst", unfollowed := true, recurses := true, apart := false, narrowed := true }
def RtaWorstUptoSaid : Prop := rtaWorstUptoRow.holds Try.pinned (OpenSpec.upto rtaWorstSpec)

/-- 'slotwrightkeep.RtaAll', WHERE WHAT IT READS IS OF BULK AT MOST 1048576: true; the input reads as it did. -/
def rtaAllUptoRow : OpenClaim := { program := "ytiejgmkbhjnceaa", sum := "818b14e3619093aa1f56f4b94e003a567e6a595d16752f29e56e1031c02dd577", func := "slotwright/slotwrightkeep.RtaAll", spec := "rtaAll", unfollowed := true, recurses := true, apart := false, narrowed := true }
def RtaAllUptoSaid : Prop := rtaAllUptoRow.holds Try.pinned (OpenSpec.upto rtaAllSpec)

/-- 'slotwrightkeep.RtaMore', WHERE WHAT IT READS IS OF BULK AT MOST 1048576: true; the input reads as it did. -/
def rtaMoreUptoRow : OpenClaim := { program := "ytiejgmkbhjnceaa", sum := "818b14e3619093aa1f56f4b94e003a567e6a595d16752f29e56e1031c02dd577", func := "slotwright/slotwrightkeep.RtaMore", spec := "rtaMore", unfollowed := true, recurses := true, apart := false, narrowed := true }
def RtaMoreUptoSaid : Prop := rtaMoreUptoRow.holds Try.pinned (OpenSpec.upto rtaMoreSpec)

/-- 'slotwrightkeep.RtaLast', WHERE WHAT IT READS IS OF BULK AT MOST 1048576: true; the input reads as it did. -/
def rtaLastUptoRow : OpenClaim := { program := "ytiejgmkbhjnceaa", sum := "818b14e3619093aa1f56f4b94e003a567e6a595d16752f29e56e1031c02dd577", func := "slotwright/slotwrightkeep.RtaLast", spec := "rtaLast", unfollowed := true, recurses := true, apart := false, narrowed := true }
def RtaLastUptoSaid : Prop := rtaLastUptoRow.holds Try.pinned (OpenSpec.upto rtaLastSpec)

end Rows
end Go.Proofs.Ytiejgmkbhjnceaa
