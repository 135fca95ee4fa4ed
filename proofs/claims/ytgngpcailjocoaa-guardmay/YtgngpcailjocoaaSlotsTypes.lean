/-
  A slot as three numbers, a slice of slots as a list of them. No statement of the seat is here.
-/
import Derived.Test.YtgngpcailjocoaaTypes
import Derived.Test.YtgngpcailjocoaaNums
import Derived.Test.YtgngpcailjocoaaStructs
import Derived.Test.YtgngpcailjocoaaSlices
import Derived.Test.YtgngpcailjocoaaBox
namespace Go.Proofs.Ytgngpcailjocoaa
open Go.RowKit

structure Slt where
  nd : Int
  fr : Int
  lg : Int

def slotC (s : Slt) : List Value := [.int .i64 s.nd, .int .i64 s.fr, .int .i64 s.lg]
theorem slotC_len (s : Slt) : (slotC s).length = 3 := rfl
abbrev RdS (w : World) (A : Option Addr) (n : Nat) (L : List Slt) : Prop := Rd w 3 A n (L.flatMap slotC)

def Slt.Ok (s : Slt) : Prop := in64 s.nd ∧ in64 s.fr ∧ in64 s.lg

theorem Rd.lenS {w : World} {A : Option Addr} {n : Nat} {L : List Slt} (h : RdS w A n L) : L.length = n := h.lenFlat slotC_len (by decide)
theorem Rd.atS {w : World} {A : Option Addr} {n k : Nat} {L : List Slt} (h : RdS w A n L) (hk : k < n) :
    ∃ ad nd fr lg, A = some ad ∧ L[k]? = some ⟨nd, fr, lg⟩ ∧ w.cell? (ad.add (k * 3)) = some (.int .i64 nd) ∧ w.cell? ⟨(ad.add (k * 3)).block, (ad.add (k * 3)).off + 1, none⟩ = some (.int .i64 fr) ∧ w.cell? ⟨(ad.add (k * 3)).block, (ad.add (k * 3)).off + 2, none⟩ = some (.int .i64 lg) := by
  obtain ⟨ad, x, e, hx, hc⟩ := h.atFlat slotC_len (by decide) hk
  have h1 := hc 1 _ rfl
  have h2 := hc 2 _ rfl
  rw [← ad_add] at h1 h2
  exact ⟨ad, x.nd, x.fr, x.lg, e, hx, hc 0 _ rfl, h1, h2⟩
theorem elSlot : ElemT Try.prog 22 45 (.agg #[.int .i64 0, .int .i64 0, .int .i64 0]) 3 24 := ⟨Try.underlying22, by kernel_rfl, rfl, by decide⟩
end Go.Proofs.Ytgngpcailjocoaa
