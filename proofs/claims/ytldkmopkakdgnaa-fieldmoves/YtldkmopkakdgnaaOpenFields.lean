/-
  An argument that is a slice of fields (two ints and a bool), opened to a list. No statement of the seat is proved here.
-/
import Derived.Test.YtldkmopkakdgnaaOpenM
import Derived.Test.YtldkmopkakdgnaaFieldTypes
namespace Go.Proofs.Ytldkmopkakdgnaa
open Go.ChangeShapes Go.WideShapes Go.ChangeAt Go.RowKit Go.Deep
set_option maxRecDepth 20000
set_option linter.unusedVariables false

section
variable {H : Type} {enc : TypeId × Value → H} {P : Program} {w : World} {base : Nat} {held : Bool}
theorem open_fields {t e : TypeId} {f0 f1 f2 : Field} (ht : P.underlying t = some (.slice e)) (he : P.underlying e = some (.struct #[f0, f1, f2])) (hC : P.cellsOf e = 3) (o0 : f0.offset = 0) (o1 : f1.offset = 1) (o2 : f2.offset = 2)
    (c0 : P.cellsOf f0.type = 1) (c1 : P.cellsOf f1.type = 1) (c2 : P.cellsOf f2.type = 1) (i0 : P.underlying f0.type = some (.int .i64)) (i1 : P.underlying f1.type = some (.int .i64)) (i2 : P.underlying f2.type = some .bool)
    {A : Option Addr} {len cap : Nat} {d : DataW H} {p : List MemPlace} (h : DataW.Trod enc P w base (fun _ => true) held t (.slice A len cap) d p) :
    len ≤ cap ∧ cap ≤ maxLen ∧ ∃ l : List FI, RdG FI.cells 3 w A len l ∧ (∀ s ∈ l, s.Ok) ∧ ((A = none ∧ cap = 0 ∧ l = [] ∧ d = .nil) ∨ ∃ sp : List (DataW H), d = .slice (l.map fun s => .agg [.lit (.int .i64 s.fr), .lit (.int .i64 s.wd), .lit (.bool s.bg)]) sp ∧ l.length + sp.length = cap) :=
  open_listM FI.cells 3 fldK.len _ _ ht hC (fun n cs y hl hy => by
    obtain ⟨y0, y1, y2, m, rfl, _, h0, h1, h2⟩ := trod_struct3 he hy
    match cs, hl with
    | [v0, v1, v2], _ =>
      simp only [o0, c0, List.drop_zero, List.take_succ_cons, List.take_zero] at h0
      simp only [o1, c1, List.drop_succ_cons, List.drop_zero, List.take_succ_cons, List.take_zero] at h1
      simp only [o2, c2, List.drop_succ_cons, List.drop_zero, List.take_succ_cons, List.take_zero] at h2
      obtain ⟨a, e0, rfl, q0⟩ := DataW.trod_int i0 h0
      obtain ⟨b, e1, rfl, q1⟩ := DataW.trod_int i1 h1
      obtain ⟨c, e2, rfl⟩ := DataW.trod_bool i2 h2
      simp at e0 e1 e2
      subst e0 e1 e2
      exact ⟨⟨a, b, c⟩, rfl, rfl, wf_i64 q0, wf_i64 q1⟩) h
end
end Go.Proofs.Ytldkmopkakdgnaa
