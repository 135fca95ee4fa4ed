/-
  An argument that is a slice of structs of two ints, opened to a list. No statement of the seat is proved here.
-/
import Derived.Test.YtdppfjiphfeapaaOpenM
import Derived.Test.YtdppfjiphfeapaaNums
namespace Go.Proofs.Ytdppfjiphfeapaa
open Go.ChangeShapes Go.WideShapes Go.ChangeAt Go.RowKit Go.Deep
set_option maxRecDepth 20000
set_option linter.unusedVariables false

section
variable {H : Type} {enc : TypeId × Value → H} {P : Program} {w : World} {base : Nat} {held : Bool}
theorem open_pairs {α : Type} (mk : Int → Int → α) (C : α → List Value) (fst snd : α → Int) (hC : ∀ a b, C (mk a b) = [.int .i64 a, .int .i64 b]) (hl2 : ∀ x, (C x).length = 2) (h1 : ∀ a b, fst (mk a b) = a) (h2 : ∀ a b, snd (mk a b) = b)
    {t e : TypeId} {f0 f1 : Field} (ht : P.underlying t = some (.slice e)) (he : P.underlying e = some (.struct #[f0, f1])) (hce : P.cellsOf e = 2) (o0 : f0.offset = 0) (o1 : f1.offset = 1)
    (c0 : P.cellsOf f0.type = 1) (c1 : P.cellsOf f1.type = 1) (i0 : P.underlying f0.type = some (.int .i64)) (i1 : P.underlying f1.type = some (.int .i64))
    {A : Option Addr} {len cap : Nat} {d : DataW H} {p : List MemPlace} (h : DataW.Trod enc P w base (fun _ => true) held t (.slice A len cap) d p) :
    len ≤ cap ∧ cap ≤ maxLen ∧ ∃ l : List α, Rd w 2 A len (l.flatMap C) ∧ (∀ s ∈ l, in64 (fst s) ∧ in64 (snd s)) ∧ ((A = none ∧ cap = 0 ∧ l = [] ∧ d = .nil) ∨ ∃ sp : List (DataW H), d = .slice (l.map fun s => .agg [.lit (.int .i64 (fst s)), .lit (.int .i64 (snd s))]) sp ∧ l.length + sp.length = cap) :=
  open_listM C 2 hl2 _ _ ht hce (fun n cs y hl hy => by
    obtain ⟨y0, y1, m, rfl, _, g0, g1⟩ := trod_struct2 he hy
    match cs, hl with
    | [v0, v1], _ =>
      simp only [o0, c0, List.drop_zero, List.take_succ_cons, List.take_zero] at g0
      simp only [o1, c1, List.drop_succ_cons, List.drop_zero, List.take_succ_cons, List.take_zero] at g1
      obtain ⟨a, e0, rfl, q0⟩ := DataW.trod_int i0 g0
      obtain ⟨b, e1, rfl, q1⟩ := DataW.trod_int i1 g1
      simp at e0 e1
      subst e0 e1
      exact ⟨mk a b, (hC a b).symm, by rw [h1, h2], by rw [h1, h2]; exact ⟨wf_i64 q0, wf_i64 q1⟩⟩) h
end
end Go.Proofs.Ytdppfjiphfeapaa
