/-
  A member and a slot that was heard as values and as cells. No statement of the seat is here.
-/
import Derived.Test.YtnmoddknghcobaaMemberMath2
import Derived.Test.YtnmoddknghcobaaStructG
import Derived.Test.YtnmoddknghcobaaNums
namespace Go.Proofs.Ytnmoddknghcobaa
open Go.RowKit
set_option linter.unusedVariables false

abbrev memV (m : Mem) : Value := .agg #[.int .u16 (m.vw : Int), .int .i64 m.tk, .int .i64 m.ls, .bool m.ou]
def memC (m : Mem) : List Value := [.int .u16 (m.vw : Int), .int .i64 m.tk, .int .i64 m.ls, .bool m.ou]
theorem memK : CellsG memC 4 := ⟨fun _ => rfl, by decide, fun m u hu => by
  simp [memC] at hu
  rcases hu with rfl | rfl | rfl | rfl <;> rfl⟩
abbrev hrdV (h : Hrd) : Value := .agg #[.int .i64 h.nd, .bool h.cm, .int .u16 (h.hv : Int)]
def hrdC (h : Hrd) : List Value := [.int .i64 h.nd, .bool h.cm, .int .u16 (h.hv : Int)]
theorem hrdK : CellsG hrdC 3 := ⟨fun _ => rfl, by decide, fun m u hu => by
  simp [hrdC] at hu
  rcases hu with rfl | rfl | rfl <;> rfl⟩
def Hrd.Ok (h : Hrd) : Prop := in64 h.nd ∧ h.hv < 65536
theorem elMem : ElemT Try.prog 36 24 (.agg #[.int .u16 0, .int .i64 0, .int .i64 0, .bool false]) 4 32 := ⟨Try.underlying36, by kernel_rfl, rfl, by decide⟩
theorem elHrd : ElemT Try.prog 27 26 (.agg #[.int .i64 0, .bool false, .int .u16 0]) 3 16 := ⟨Try.underlying27, by kernel_rfl, rfl, by decide⟩
/-- The cells of an element in the walk's own spelling. -/
theorem heard_at {w : World} {A : Option Addr} {n k : Nat} {L : List Hrd} (h : RdG hrdC 3 w A n L) (hk : k < n) :
    ∃ ad x, A = some ad ∧ L[k]? = some x ∧ w.cell? (ad.add (k * 3)) = some (.int .i64 x.nd) ∧ w.cell? ⟨(ad.add (k * 3)).block, (ad.add (k * 3)).off + 1, none⟩ = some (.bool x.cm) ∧ w.cell? ⟨(ad.add (k * 3)).block, (ad.add (k * 3)).off + 2, none⟩ = some (.int .u16 (x.hv : Int)) := by
  obtain ⟨ad, x, e, hx, h0, h1⟩ := RdG.cells hrdK h hk
  exact ⟨ad, x, e, hx, h0 _ rfl, h1 0 _ rfl, h1 1 _ rfl⟩
theorem mem_at {w : World} {A : Option Addr} {n k : Nat} {L : List Mem} (h : RdG memC 4 w A n L) (hk : k < n) :
    ∃ ad x, A = some ad ∧ L[k]? = some x ∧ w.cell? (ad.add (k * 4)) = some (.int .u16 (x.vw : Int)) ∧ w.cell? ⟨(ad.add (k * 4)).block, (ad.add (k * 4)).off + 1, none⟩ = some (.int .i64 x.tk) ∧ w.cell? ⟨(ad.add (k * 4)).block, (ad.add (k * 4)).off + 2, none⟩ = some (.int .i64 x.ls) ∧ w.cell? ⟨(ad.add (k * 4)).block, (ad.add (k * 4)).off + 3, none⟩ = some (.bool x.ou) := by
  obtain ⟨ad, x, e, hx, h0, h1⟩ := RdG.cells memK h hk
  exact ⟨ad, x, e, hx, h0 _ rfl, h1 0 _ rfl, h1 1 _ rfl, h1 2 _ rfl⟩
end Go.Proofs.Ytnmoddknghcobaa
