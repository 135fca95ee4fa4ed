/-
  A map to bools that the call itself has made: the look-up at the operation. No statement of the seat is here.
-/
import Derived.Test.YtldkmopkakdgnaaBase
import Derived.Maps.OwnOps
import Derived.Maps.Views
namespace Go.Proofs.Ytldkmopkakdgnaa
open Go.RowKit
set_option maxRecDepth 20000
set_option linter.unusedVariables false

theorem plainElem_bool_inv {H : Type} {P : Program} {e : TypeId} (he : P.underlying e = some .bool) {v : Value} {z : DataW H × List MemPlace} (h : plainElem P e v = some z) : ∃ b, v = .bool b ∧ z = (.lit (.bool b), []) := by
  unfold plainElem at h
  rw [he] at h
  cases v <;> simp at h
  exact ⟨_, rfl, h.symm⟩
/-- The datum of a set of ints kept as a map to bools: at each key whether it is among the list. -/
def SetOf (D : DataW Unit) (l : List Int) : Prop := Maps.IsMap D ∧ ∀ x : Int, D.atKey (.int .i64 x) (.lit (.bool false)) = .lit (.bool (decide (x ∈ l)))
theorem SetOf.nil : SetOf (.map []) [] := ⟨Maps.isMap_empty, fun x => by rw [Maps.atKey_of_not_has rfl]; simp⟩
theorem SetOf.put {D : DataW Unit} {l : List Int} (h : SetOf D l) (y : Int) : SetOf (D.put (.int .i64 y) (.lit (.bool true))) (l ++ [y]) := by
  refine ⟨h.1.put _ _, fun x => ?_⟩
  by_cases e : x = y
  · subst e
    rw [Maps.atKey_put_same h.1 (k := .int .i64 x) (by simp [WideAt.IsKeyLit])]; simp
  · rw [Maps.atKey_put_other (by simp [e]), h.2 x]; simp [e]
theorem wpList_lookup_own_bool {P : Program} (w : World) {ops : Array Oper} {rest : List Oper} {o : Oper} {a : Act} {Q : Exit → Act → World → Prop}
    (hg : o.guard = none) (m x : Operand) (t : TypeId) (hop : o.op = Op.lookup t m x false)
    (k e : TypeId) (K : Maps.Keyed P k) (ht : P.underlying t = some (.map k e)) (he : P.underlying e = some .bool) (hz : (zeroValue e).run P w = .ok (.bool false) w) (b n : Nat) (D : DataW Unit)
    (hm : a.eval m = .map (some b)) (hown : w.ownsMap P k (plainElem P e) b n D) (l : List Int) (hD : SetOf D l) (y : Int) (c : Bool) (hc : decide (y ∈ l) = c) (hx : a.eval x = .int .i64 y) (hkey : keyOf P k (.int .i64 y) = some (.int .i64 y))
    (hK : wpList P ops Q rest (a.put o.dst (.bool c)) w) :
    wpList P ops Q (o :: rest) a w := by
  refine wpList_plain hg fun K' hK' => ?_
  obtain ⟨v, ps, hrun, hv⟩ := hown.lookup K ht hz (plainElem_bool he false) hkey
  obtain ⟨b', rfl, hb⟩ := plainElem_bool_inv he hv
  rw [hD.2 y, hc] at hb
  simp only [Prod.mk.injEq, DataW.lit.injEq, Lit.bool.injEq] at hb
  obtain ⟨rfl, _⟩ := hb
  unfold Oper.wp
  simp [execOp, hop, hm, hx, hrun, Result.andThen]
  exact hK' _ _ hK
end Go.Proofs.Ytldkmopkakdgnaa
