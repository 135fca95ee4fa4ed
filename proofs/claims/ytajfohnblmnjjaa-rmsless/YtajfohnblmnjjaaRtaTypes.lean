/-
  Tasks as values and cells. No statement of the seat is here.
-/
import Derived.Test.YtajfohnblmnjjaaRtaMath2
import Derived.Test.YtajfohnblmnjjaaStructG
namespace Go.Proofs.Ytajfohnblmnjjaa
open Go.RowKit
set_option linter.unusedVariables false

abbrev tskV (t : Tsk) : Value := .agg #[.int .i64 t.p, .int .i64 t.c]
theorem tskK : CellsG tskC 2 := ⟨fun _ => rfl, by decide, fun m u hu => by
  simp [tskC] at hu
  rcases hu with rfl | rfl <;> rfl⟩
theorem tkK : CellsG tkC 2 := ⟨fun _ => rfl, by decide, fun m u hu => by
  simp [tkC] at hu
  rcases hu with rfl | rfl <;> rfl⟩
theorem elTask : ElemT Try.prog 22 38 (.agg #[.int .i64 0, .int .i64 0]) 2 16 := ⟨Try.underlying22, by kernel_rfl, rfl, by decide⟩
/-- The cells of a task in the walk's own spelling. -/
theorem tsk_at {w : World} {A : Option Addr} {n k : Nat} {L : List Tsk} (h : RdG tskC 2 w A n L) (hk : k < n) :
    ∃ ad x, A = some ad ∧ L[k]? = some x ∧ w.cell? (ad.add (k * 2)) = some (.int .i64 x.p) ∧ w.cell? ⟨(ad.add (k * 2)).block, (ad.add (k * 2)).off + 1, none⟩ = some (.int .i64 x.c) := by
  obtain ⟨ad, x, e, hx, h0, h1⟩ := RdG.cells tskK h hk
  exact ⟨ad, x, e, hx, h0 _ rfl, h1 0 _ rfl⟩
theorem tk_at {w : World} {A : Option Addr} {n k : Nat} {M : List Tk} (h : RdG tkC 2 w A n M) (hk : k < n) :
    ∃ ad p c, A = some ad ∧ M[k]? = some ⟨p, c⟩ ∧ w.cell? (ad.add (k * 2)) = some (.int .i64 (p : Int)) ∧ w.cell? ⟨(ad.add (k * 2)).block, (ad.add (k * 2)).off + 1, none⟩ = some (.int .i64 (c : Int)) := by
  obtain ⟨ad, x, e, hx, h0, h1⟩ := RdG.cells tkK h hk
  exact ⟨ad, x.p, x.c, e, hx, h0 _ rfl, h1 0 _ rfl⟩
theorem tk_rd {w : World} {A : Option Addr} {n : Nat} {M : List Tk} (h : RdG tskC 2 w A n (M.map Tk.asT)) : RdG tkC 2 w A n M := by
  show Rd w 2 A n (M.flatMap tkC)
  rw [← tk_flat]
  exact h
theorem below_one {w : World} (o : Obj) : Below w.heap.size w (w.alloc o) := (Below.refl _ _).alloc (Nat.le_refl _) o
end Go.Proofs.Ytajfohnblmnjjaa
