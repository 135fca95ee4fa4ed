/-
  Fields as values and cells; Move as a function of lists. No statement of the seat is here.
-/
import Derived.Test.YtldkmopkakdgnaaFieldMath2
import Derived.Test.YtldkmopkakdgnaaStructG
import Derived.Test.YtldkmopkakdgnaaNums
namespace Go.Proofs.Ytldkmopkakdgnaa
open Go.RowKit
set_option maxRecDepth 20000
set_option linter.unusedVariables false

theorem fldK : CellsG FI.cells 3 := ⟨fun _ => rfl, by decide, fun m u hu => by
  simp [FI.cells] at hu
  rcases hu with rfl | rfl | rfl <;> rfl⟩
def FI.Ok (f : FI) : Prop := in64 f.fr ∧ in64 f.wd
theorem elFld : ElemT Try.prog 36 24 (.agg #[.int .i64 0, .int .i64 0, .bool false]) 3 24 := ⟨Try.underlying36, by kernel_rfl, rfl, by decide⟩
/-- The cells of an element in the walk's own spelling. -/
theorem fld_at {w : World} {A : Option Addr} {n k : Nat} {L : List FI} (h : RdG FI.cells 3 w A n L) (hk : k < n) :
    ∃ ad x, A = some ad ∧ L[k]? = some x ∧ w.cell? (ad.add (k * 3)) = some (.int .i64 x.fr) ∧ w.cell? ⟨(ad.add (k * 3)).block, (ad.add (k * 3)).off + 1, none⟩ = some (.int .i64 x.wd) ∧ w.cell? ⟨(ad.add (k * 3)).block, (ad.add (k * 3)).off + 2, none⟩ = some (.bool x.bg) := by
  obtain ⟨ad, x, e, hx, h0, h1⟩ := RdG.cells fldK h hk
  exact ⟨ad, x, e, hx, h0 _ rfl, h1 0 _ rfl, h1 1 _ rfl⟩
/-- Fields moved, one after another. -/
def moveG (l : List Int) : List FI → List FI → List Int → List Int × Int
  | f :: fs, g :: gs, cur => if wrongW f l.length ≠ 0 then ([], wrongW f l.length) else if setW g cur.length (getF l f.fld) ≠ 0 then ([], setW g cur.length (getF l f.fld)) else moveG l fs gs (setF cur g.fld (getF l f.fld))
  | _, _, cur => (cur, 0)
def moveE (l : List Int) (a : List FI) (t : List Int) (b : List FI) : List Int × Int := if a.length ≠ b.length then ([], 1) else moveG l a b t
theorem moveG_end {l cur : List Int} {a b : List FI} {k : Nat} (h : a.length ≤ k) : moveG l (a.drop k) (b.drop k) cur = (cur, 0) := by
  rw [List.drop_of_length_le h]; rfl
theorem moveG_get {l cur : List Int} {a b : List FI} {k : Nat} {f g : FI} (ha : a[k]? = some f) (hb : b[k]? = some g) (h : wrongW f l.length ≠ 0) : moveG l (a.drop k) (b.drop k) cur = ([], wrongW f l.length) := by
  rw [drop_cons ha, drop_cons hb, moveG, if_pos h]
theorem moveG_set {l cur : List Int} {a b : List FI} {k : Nat} {f g : FI} (ha : a[k]? = some f) (hb : b[k]? = some g) (h : wrongW f l.length = 0) (h2 : setW g cur.length (getF l f.fld) ≠ 0) : moveG l (a.drop k) (b.drop k) cur = ([], setW g cur.length (getF l f.fld)) := by
  rw [drop_cons ha, drop_cons hb, moveG, if_neg (by omega), if_pos h2]
theorem moveG_next {l cur : List Int} {a b : List FI} {k : Nat} {f g : FI} (ha : a[k]? = some f) (hb : b[k]? = some g) (h : wrongW f l.length = 0) (h2 : setW g cur.length (getF l f.fld) = 0) : moveG l (a.drop k) (b.drop k) cur = moveG l (a.drop (k + 1)) (b.drop (k + 1)) (setF cur g.fld (getF l f.fld)) := by
  rw [drop_cons ha, drop_cons hb, moveG, if_neg (by omega), if_neg (by omega)]
theorem getE_bad {l : List Int} {f : FI} (h : wrongW f l.length ≠ 0) : getE l f = (0, wrongW f l.length) := if_neg h
theorem getE_ok {l : List Int} {f : FI} (h : wrongW f l.length = 0) : getE l f = (getF l f.fld, 0) := if_pos h
end Go.Proofs.Ytldkmopkakdgnaa
