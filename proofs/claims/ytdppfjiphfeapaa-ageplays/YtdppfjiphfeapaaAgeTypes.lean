/-
  Operations and answers of a state variable as values and cells; the variable's own block. No statement of the seat is here.
-/
import Derived.Test.YtdppfjiphfeapaaAgeMath
import Derived.Test.YtdppfjiphfeapaaStructG
import Derived.Test.YtdppfjiphfeapaaNums
namespace Go.Proofs.Ytdppfjiphfeapaa
open Go.RowKit
set_option maxRecDepth 20000
set_option linter.unusedVariables false

abbrev agoV (o : AgO) : Value := .agg #[.int .i64 o.kd, .int .i64 o.n]
def agoC (o : AgO) : List Value := [.int .i64 o.kd, .int .i64 o.n]
theorem agoK : CellsG agoC 2 := ⟨fun _ => rfl, by decide, fun m u hu => by
  simp [agoC] at hu
  rcases hu with rfl | rfl <;> rfl⟩
theorem elAgo : ElemT Try.prog 22 35 (.agg #[.int .i64 0, .int .i64 0]) 2 16 := ⟨Try.underlying22, by kernel_rfl, rfl, by decide⟩
abbrev agaV (a : AgA) : Value := .agg #[.int .i64 a.er, .int .i64 a.va, .int .i64 a.od]
def agaC (a : AgA) : List Value := [.int .i64 a.er, .int .i64 a.va, .int .i64 a.od]
theorem agaK : CellsG agaC 3 := ⟨fun _ => rfl, by decide, fun m u hu => by
  simp [agaC] at hu
  rcases hu with rfl | rfl | rfl <;> rfl⟩
theorem elAga : ElemT Try.prog 23 31 (.agg #[.int .i64 0, .int .i64 0, .int .i64 0]) 3 24 := ⟨Try.underlying23, by kernel_rfl, rfl, by decide⟩
/-- The cells of an operation, of an answer in the walk's own spelling. -/
theorem ago_at {w : World} {A : Option Addr} {n k : Nat} {L : List AgO} (h : RdG agoC 2 w A n L) (hk : k < n) :
    ∃ ad kd x, A = some ad ∧ L[k]? = some (⟨kd, x⟩ : AgO) ∧ w.cell? (ad.add (k * 2)) = some (.int .i64 kd) ∧ w.cell? ⟨(ad.add (k * 2)).block, (ad.add (k * 2)).off + 1, none⟩ = some (.int .i64 x) := by
  obtain ⟨ad, x, e, hx, h0, h1⟩ := RdG.cells agoK h hk
  exact ⟨ad, x.kd, x.n, e, hx, h0 _ rfl, h1 0 _ rfl⟩
theorem aga_at {w : World} {A : Option Addr} {n k : Nat} {L : List AgA} (h : RdG agaC 3 w A n L) (hk : k < n) :
    ∃ ad er va od, A = some ad ∧ L[k]? = some (⟨va, od, er⟩ : AgA) ∧ w.cell? (ad.add (k * 3)) = some (.int .i64 er) ∧ w.cell? ⟨(ad.add (k * 3)).block, (ad.add (k * 3)).off + 1, none⟩ = some (.int .i64 va) ∧ w.cell? ⟨(ad.add (k * 3)).block, (ad.add (k * 3)).off + 2, none⟩ = some (.int .i64 od) := by
  obtain ⟨ad, x, e, hx, h0, h1⟩ := RdG.cells agaK h hk
  exact ⟨ad, x.er, x.va, x.od, e, hx, h0 _ rfl, h1 0 _ rfl, h1 1 _ rfl⟩
/-- The cells of the variable. -/
def varC (s : AgS) : List Value := [.int .i64 s.nw, .bool s.any, .int .i64 s.va, .int .i64 s.at_]
theorem below_two {w w' : World} {b : Nat} (hb : b ≤ w.heap.size) (h : Below w.heap.size w w') : Below b w w' := h.mono hb
/-- An answer stored whole. -/
theorem put_aga {w : World} {base g n c k : Nat} {e : TypeId} {L : List AgA} {x : AgA} (h : OwG agaC 3 w base e (.slice (some ⟨g, 0, none⟩) n c) L) (hk : L[k]? = some x) (er va od : Int) :
    OwG agaC 3 (((w.setCell ⟨g, k * 3, none⟩ (.int .i64 er)).setCell ⟨g, k * 3 + 1, none⟩ (.int .i64 va)).setCell ⟨g, k * 3 + 2, none⟩ (.int .i64 od)) base e (.slice (some ⟨g, 0, none⟩) n c) (L.set k ⟨va, od, er⟩) := by
  have hlt := (List.getElem?_eq_some_iff.1 hk).1
  have g1 := h.put agaK (j := 0) (y := ⟨x.va, x.od, er⟩) (u := .int .i64 er) hk (by decide) rfl
  have g2 := g1.put agaK (k := k) (j := 1) (x := ⟨x.va, x.od, er⟩) (y := ⟨va, x.od, er⟩) (u := .int .i64 va) (by simp [hlt]) (by decide) rfl
  have g3 := g2.put agaK (k := k) (j := 2) (x := ⟨va, x.od, er⟩) (y := ⟨va, od, er⟩) (u := .int .i64 od) (by simp [hlt]) (by decide) rfl
  simpa only [List.set_set, Nat.add_zero] using g3
theorem grownBy_tri (w : World) (g i0 i1 i2 : Nat) (v0 v1 v2 : Value) : w.grownBy (((w.setCell ⟨g, i0, none⟩ v0).setCell ⟨g, i1, none⟩ v1).setCell ⟨g, i2, none⟩ v2) (some g) :=
  grownBy_then (grownBy_then (grownBy_setCell w ⟨g, i0, none⟩ v0) (grownBy_setCell _ ⟨g, i1, none⟩ v1)) (grownBy_setCell _ ⟨g, i2, none⟩ v2)
end Go.Proofs.Ytdppfjiphfeapaa
