/-
  An argument that is a slice of operations of a state variable, opened to a list. No statement of the seat is proved here.
-/
import Derived.Test.YtdppfjiphfeapaaOpenPairs
import Derived.Test.YtdppfjiphfeapaaAgeTypes
namespace Go.Proofs.Ytdppfjiphfeapaa
open Go.ChangeShapes Go.WideShapes Go.ChangeAt Go.RowKit Go.Deep
set_option maxRecDepth 20000
set_option linter.unusedVariables false

section
variable {H : Type} {enc : TypeId × Value → H} {P : Program} {w : World} {base : Nat} {held : Bool}
theorem open_ages {t e : TypeId} {f0 f1 : Field} (ht : P.underlying t = some (.slice e)) (he : P.underlying e = some (.struct #[f0, f1])) (hce : P.cellsOf e = 2) (o0 : f0.offset = 0) (o1 : f1.offset = 1)
    (c0 : P.cellsOf f0.type = 1) (c1 : P.cellsOf f1.type = 1) (i0 : P.underlying f0.type = some (.int .i64)) (i1 : P.underlying f1.type = some (.int .i64))
    {A : Option Addr} {len cap : Nat} {d : DataW H} {p : List MemPlace} (h : DataW.Trod enc P w base (fun _ => true) held t (.slice A len cap) d p) :
    len ≤ cap ∧ cap ≤ maxLen ∧ ∃ l : List AgO, RdG agoC 2 w A len l ∧ (∀ s ∈ l, in64 s.kd ∧ in64 s.n) ∧ ((A = none ∧ cap = 0 ∧ l = [] ∧ d = .nil) ∨ ∃ sp : List (DataW H), d = .slice (l.map fun s => .agg [.lit (.int .i64 s.kd), .lit (.int .i64 s.n)]) sp ∧ l.length + sp.length = cap) :=
  open_pairs AgO.mk agoC AgO.kd AgO.n (fun _ _ => rfl) agoK.len (fun _ _ => rfl) (fun _ _ => rfl) ht he hce o0 o1 c0 c1 i0 i1 h
end
end Go.Proofs.Ytdppfjiphfeapaa
