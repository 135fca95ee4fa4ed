/-
  No cell of these rows narrows 'for every input' (looked for: loops, veiled, ifaces, maps, wideKeys, modest, calm, conditions, laid).
  DERIVED. THE GIVEN ROWS OF THIS SEAT. 5 by the template 'for every input the law returns true; each argument reads behind the call as it read before'; 0 by the template 'total and deterministic' (their statements: YtgngpcailjocoaaTotals.lean).
  GIVEN WITH THE SEED: the statements are not yours to turn. If you find one false, say at which input.
  Laid BY PROGRAM, IN A SANDBOX (cutbox-rows.mjs): the forced cells as the released guide's own fill.sh prints them over the translation ab949d0ec1f57549… (all of the seat's roots in one cut). By AI agents, Wed Nov 11 2026. No macro, syntax, notation, axiom, sorry.
-/
import Derived.Test.YtgngpcailjocoaaChecked
import GoSem.Claim
import GoSem.ClaimJoined
import GoSem.ClaimMapViews
import Derived.JoinedTies
import Derived.KernelRfl
namespace Go.Proofs.Ytgngpcailjocoaa
/- THE CELL 'sum', in the pinned program and in every row, IS THE sha256 OF THE DUMP (.gsa) THAT YtgngpcailjocoaaProg.lean LOADS. Nothing in Lean hashes anything: it is a label: what it is worth is what the hold of that sum in a sandbox is worth. -/
noncomputable def Try.pinned : Pinned := { name := "ytgngpcailjocoaa", sum := "ab949d0ec1f575495f5f094f6fed88a1d71031d6a4e934250ee8bd9cac5a8c05", checked := Try.checked }
namespace Rows
def none {H : Type} : Left H := { results := [], args := [] }

/-- 'slotwrightlaw.GuardMay': WHATEVER THE INPUT: true; the input reads as it did. -/
def guardMaySpec : ChangeSpec := { name := "guardMay", fn := fun _ => fun
  | [d1, d2, d3] => { results := [.lit (.bool true)], args := [d1, d2, d3] }
  | _ => none }
def guardMayRow : OpenClaim := { program := "ytgngpcailjocoaa", sum := "ab949d0ec1f575495f5f094f6fed88a1d71031d6a4e934250ee8bd9cac5a8c05", func := "slotwright/slotwrightlaw.GuardMay", spec := "guardMay", unfollowed := true, recurses := true, apart := false }
def GuardMaySaid : Prop := guardMayRow.holds Try.pinned (OpenSpec.ofChange guardMaySpec)

/-- ITS FALSE NEIGHBOUR: 'it returns false'. Refute it at one input. -/
def guardMayWrong : ChangeSpec := { name := "guardMay", fn := fun _ => fun
  | [d1, d2, d3] => { results := [.lit (.bool false)], args := [d1, d2, d3] }
  | _ => none }
def GuardMayWrongFalsely : Prop := guardMayRow.holds Try.pinned (OpenSpec.ofChange guardMayWrong)

/-- 'slotwrightkeep.GuardBabble': WHATEVER THE INPUT: true; the input reads as it did. -/
def guardBabbleSpec : ChangeSpec := { name := "guardBabble", fn := fun _ => fun
  | [d1, d2, d3, d4] => { results := [.lit (.bool true)], args := [d1, d2, d3, d4] }
  | _ => none }
def guardBabbleRow : OpenClaim := { program := "ytgngpcailjocoaa", sum := "ab949d0ec1f575495f5f094f6fed88a1d71031d6a4e934250ee8bd9cac5a8c05", func := "slotwright/slotwrightkeep.GuardBabble", spec := "guardBabble", unfollowed := true, recurses := true, apart := false }
def GuardBabbleSaid : Prop := guardBabbleRow.holds Try.pinned (OpenSpec.ofChange guardBabbleSpec)

/-- ITS FALSE NEIGHBOUR: 'it returns false'. Refute it at one input. -/
def guardBabbleWrong : ChangeSpec := { name := "guardBabble", fn := fun _ => fun
  | [d1, d2, d3, d4] => { results := [.lit (.bool false)], args := [d1, d2, d3, d4] }
  | _ => none }
def GuardBabbleWrongFalsely : Prop := guardBabbleRow.holds Try.pinned (OpenSpec.ofChange guardBabbleWrong)

/-- 'slotwrightkeep.GuardOwn': WHATEVER THE INPUT: true; the input reads as it did. -/
def guardOwnSpec : ChangeSpec := { name := "guardOwn", fn := fun _ => fun
  | [d1, d2, d3] => { results := [.lit (.bool true)], args := [d1, d2, d3] }
  | _ => none }
def guardOwnRow : OpenClaim := { program := "ytgngpcailjocoaa", sum := "ab949d0ec1f575495f5f094f6fed88a1d71031d6a4e934250ee8bd9cac5a8c05", func := "slotwright/slotwrightkeep.GuardOwn", spec := "guardOwn", unfollowed := true, recurses := true, apart := false }
def GuardOwnSaid : Prop := guardOwnRow.holds Try.pinned (OpenSpec.ofChange guardOwnSpec)

/-- ITS FALSE NEIGHBOUR: 'it returns false'. Refute it at one input. -/
def guardOwnWrong : ChangeSpec := { name := "guardOwn", fn := fun _ => fun
  | [d1, d2, d3] => { results := [.lit (.bool false)], args := [d1, d2, d3] }
  | _ => none }
def GuardOwnWrongFalsely : Prop := guardOwnRow.holds Try.pinned (OpenSpec.ofChange guardOwnWrong)

/-- 'slotwrightkeep.GuardShort': WHATEVER THE INPUT: true; the input reads as it did. -/
def guardShortSpec : ChangeSpec := { name := "guardShort", fn := fun _ => fun
  | [d1, d2, d3, d4, d5] => { results := [.lit (.bool true)], args := [d1, d2, d3, d4, d5] }
  | _ => none }
def guardShortRow : OpenClaim := { program := "ytgngpcailjocoaa", sum := "ab949d0ec1f575495f5f094f6fed88a1d71031d6a4e934250ee8bd9cac5a8c05", func := "slotwright/slotwrightkeep.GuardShort", spec := "guardShort", unfollowed := true, recurses := true, apart := false }
def GuardShortSaid : Prop := guardShortRow.holds Try.pinned (OpenSpec.ofChange guardShortSpec)

/-- ITS FALSE NEIGHBOUR: 'it returns false'. Refute it at one input. -/
def guardShortWrong : ChangeSpec := { name := "guardShort", fn := fun _ => fun
  | [d1, d2, d3, d4, d5] => { results := [.lit (.bool false)], args := [d1, d2, d3, d4, d5] }
  | _ => none }
def GuardShortWrongFalsely : Prop := guardShortRow.holds Try.pinned (OpenSpec.ofChange guardShortWrong)

/-- 'slotwrightkeep.GuardRound': WHATEVER THE INPUT: true; the input reads as it did. -/
def guardRoundSpec : ChangeSpec := { name := "guardRound", fn := fun _ => fun
  | [d1, d2, d3, d4] => { results := [.lit (.bool true)], args := [d1, d2, d3, d4] }
  | _ => none }
def guardRoundRow : OpenClaim := { program := "ytgngpcailjocoaa", sum := "ab949d0ec1f575495f5f094f6fed88a1d71031d6a4e934250ee8bd9cac5a8c05", func := "slotwright/slotwrightkeep.GuardRound", spec := "guardRound", unfollowed := true, recurses := true, apart := false }
def GuardRoundSaid : Prop := guardRoundRow.holds Try.pinned (OpenSpec.ofChange guardRoundSpec)

/-- ITS FALSE NEIGHBOUR: 'it returns false'. Refute it at one input. -/
def guardRoundWrong : ChangeSpec := { name := "guardRound", fn := fun _ => fun
  | [d1, d2, d3, d4] => { results := [.lit (.bool false)], args := [d1, d2, d3, d4] }
  | _ => none }
def GuardRoundWrongFalsely : Prop := guardRoundRow.holds Try.pinned (OpenSpec.ofChange guardRoundWrong)

/- THE SECOND FORM. 'bulk': how many values and letters a reading holds, each counted each time it is reached (what is shared counts as often as it is met; a slice's spare places count too). A statement '..UptoSaid' is the law's where the arguments, and the package variables that the reading takes, are together of bulk at most 1048576: NARROWER than '..Said'. Prove '..Said' where nothing that the law and all that it calls make is longer than what came in: it says more and counts as full. Else prove '..UptoSaid'. A law counts once. -/
mutual
def uptoBulk {H : Type} : DataW H → Nat
  | .lit (.string bytes) => bytes.length + 1
  | .lit _ => 1
  | .nil => 1
  | .ptr d => uptoBulk d + 1
  | .slice elems spare => uptoBulkAll elems + uptoBulkAll spare + 1
  | .agg parts => uptoBulkAll parts + 1
  | .iface _ d => uptoBulk d + 1
  | .map entries => uptoBulkEntries entries + 1
  | .held _ => 1
def uptoBulkAll {H : Type} : List (DataW H) → Nat
  | [] => 0
  | d :: r => uptoBulk d + uptoBulkAll r
def uptoBulkEntries {H : Type} : List (Lit × DataW H) → Nat
  | [] => 0
  | x :: r => uptoBulkEntry x + uptoBulkEntries r
def uptoBulkEntry {H : Type} : Lit × DataW H → Nat
  | (.string bytes, d) => bytes.length + uptoBulk d + 1
  | (_, d) => uptoBulk d + 1
 end
def uptoSmall : (H : Type) → List (DataW H) → Bool := fun _ ds => decide (uptoBulkAll ds ≤ 1048576)
def OpenSpec.upto (s : _root_.Go.ChangeSpec) : _root_.Go.OpenSpec := { _root_.Go.OpenSpec.ofChange s with cond := some uptoSmall }

/-- 'slotwrightlaw.GuardMay', WHERE WHAT IT READS IS OF BULK AT MOST 1048576: true; the input reads as it did. -/
def guardMayUptoRow : OpenClaim := { program := "ytgngpcailjocoaa", sum := "ab949d0ec1f575495f5f094f6fed88a1d71031d6a4e934250ee8bd9cac5a8c05", func := "slotwright/slotwrightlaw.GuardMay", spec := "guardMay", unfollowed := true, recurses := true, apart := false, narrowed := true }
def GuardMayUptoSaid : Prop := guardMayUptoRow.holds Try.pinned (OpenSpec.upto guardMaySpec)

/-- 'slotwrightkeep.GuardBabble', WHERE WHAT IT READS IS OF BULK AT MOST 1048576: true; the input reads as it did. -/
def guardBabbleUptoRow : OpenClaim := { program := "ytgngpcailjocoaa", sum := "ab949d0ec1f575495f5f094f6fed88a1d71031d6a4e934250ee8bd9cac5a8c05", func := "slotwright/slotwrightkeep.GuardBabble", spec := "guardBabble", unfollowed := true, recurses := true, apart := false, narrowed := true }
def GuardBabbleUptoSaid : Prop := guardBabbleUptoRow.holds Try.pinned (OpenSpec.upto guardBabbleSpec)

/-- 'slotwrightkeep.GuardOwn', WHERE WHAT IT READS IS OF BULK AT MOST 1048576: true; the input reads as it did. -/
def guardOwnUptoRow : OpenClaim := { program := "ytgngpcailjocoaa", sum := "ab949d0ec1f575495f5f094f6fed88a1d71031d6a4e934250ee8bd9cac5a8c05", func := "slotwright/slotwrightkeep.GuardOwn", spec := "guardOwn", unfollowed := true, recurses := true, apart := false, narrowed := true }
def GuardOwnUptoSaid : Prop := guardOwnUptoRow.holds Try.pinned (OpenSpec.upto guardOwnSpec)

/-- 'slotwrightkeep.GuardShort', WHERE WHAT IT READS IS OF BULK AT MOST 1048576: true; the input reads as it did. -/
def guardShortUptoRow : OpenClaim := { program := "ytgngpcailjocoaa", sum := "ab949d0ec1f575495f5f094f6fed88a1d71031d6a4e934250ee8bd9cac5a8c05", func := "slotwright/slotwrightkeep.GuardShort", spec := "guardShort", unfollowed := true, recurses := true, apart := false, narrowed := true }
def GuardShortUptoSaid : Prop := guardShortUptoRow.holds Try.pinned (OpenSpec.upto guardShortSpec)

/-- 'slotwrightkeep.GuardRound', WHERE WHAT IT READS IS OF BULK AT MOST 1048576: true; the input reads as it did. -/
def guardRoundUptoRow : OpenClaim := { program := "ytgngpcailjocoaa", sum := "ab949d0ec1f575495f5f094f6fed88a1d71031d6a4e934250ee8bd9cac5a8c05", func := "slotwright/slotwrightkeep.GuardRound", spec := "guardRound", unfollowed := true, recurses := true, apart := false, narrowed := true }
def GuardRoundUptoSaid : Prop := guardRoundUptoRow.holds Try.pinned (OpenSpec.upto guardRoundSpec)

end Rows
end Go.Proofs.Ytgngpcailjocoaa
