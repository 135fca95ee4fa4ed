/-
  Numbers that an int holds. No statement of the seat is here.
-/
import Derived.Test.YtldkmopkakdgnaaBase
namespace Go.Proofs.Ytldkmopkakdgnaa
set_option maxRecDepth 20000

def in64 (x : Int) : Prop := -9223372036854775808 ≤ x ∧ x ≤ 9223372036854775807
def in64s (l : List Int) : Prop := ∀ x ∈ l, in64 x
theorem in64_wf {x : Int} (h : (Lit.int .i64 x).wf = true) : in64 x := wf_i64 h
theorem in64s_wf {l : List Int} (h : ∀ x ∈ l, (Lit.int .i64 x).wf = true) : in64s l := fun x hx => wf_i64 (h x hx)
end Go.Proofs.Ytldkmopkakdgnaa
