/-
  An argument that is a slice of slots heard, opened to a list. No statement of the seat is proved here.
-/
import Derived.Test.YtnmoddknghcobaaOpenM
import Derived.Test.YtnmoddknghcobaaMemberTypes
namespace Go.Proofs.Ytnmoddknghcobaa
open Go.ChangeShapes Go.WideShapes Go.ChangeAt Go.RowKit Go.Deep
set_option linter.unusedVariables false

section
variable {H : Type} {enc : TypeId × Value → H} {P : Program} {w : World} {base : Nat} {held : Bool}
theorem open_heards {t e : TypeId} {f0 f1 f2 : Field} (ht : P.underlying t = some (.slice e)) (he : P.underlying e = some (.struct #[f0, f1, f2])) (hC : P.cellsOf e = 3) (o0 : f0.offset = 0) (o1 : f1.offset = 1) (o2 : f2.offset = 2)
    (c0 : P.cellsOf f0.type = 1) (c1 : P.cellsOf f1.type = 1) (c2 : P.cellsOf f2.type = 1) (i0 : P.underlying f0.type = some (.int .i64)) (i1 : P.underlying f1.type = some .bool) (i2 : P.underlying f2.type = some (.int .u16))
    {A : Option Addr} {len cap : Nat} {d : DataW H} {p : List MemPlace} (h : DataW.Trod enc P w base (fun _ => true) held t (.slice A len cap) d p) :
    len ≤ cap ∧ cap ≤ maxLen ∧ ∃ l : List Hrd, RdG hrdC 3 w A len l ∧ (∀ s ∈ l, s.Ok) ∧ ((A = none ∧ cap = 0 ∧ l = [] ∧ d = .nil) ∨ ∃ sp : List (DataW H), d = .slice (l.map fun s => .agg [.lit (.int .i64 s.nd), .lit (.bool s.cm), .lit (.int .u16 (s.hv : Int))]) sp ∧ l.length + sp.length = cap) :=
  open_listM hrdC 3 hrdK.len _ _ ht hC (fun n cs y hl hy => by
    obtain ⟨y0, y1, y2, m, rfl, _, h0, h1, h2⟩ := trod_struct3 he hy
    match cs, hl with
    | [v0, v1, v2], _ =>
      simp only [o0, c0, List.drop_zero, List.take_succ_cons, List.take_zero] at h0
      simp only [o1, c1, List.drop_succ_cons, List.drop_zero, List.take_succ_cons, List.take_zero] at h1
      simp only [o2, c2, List.drop_succ_cons, List.drop_zero, List.take_succ_cons, List.take_zero] at h2
      obtain ⟨a, e0, rfl, q0⟩ := DataW.trod_int i0 h0
      obtain ⟨b, e1, rfl⟩ := DataW.trod_bool i1 h1
      obtain ⟨c, e2, rfl, q2⟩ := DataW.trod_int i2 h2
      simp at e0 e1 e2
      subst e0 e1 e2
      have r := wf_u16 q2
      obtain ⟨c, rfl⟩ := Int.eq_ofNat_of_zero_le r.1
      exact ⟨⟨a, b, c⟩, rfl, rfl, wf_i64 q0, by have := r.2; show c < 65536; omega⟩) h
end
end Go.Proofs.Ytnmoddknghcobaa
