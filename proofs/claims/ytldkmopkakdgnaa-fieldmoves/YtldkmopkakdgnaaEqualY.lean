/-
  Contract of bytes.Equal. No statement of the seat is here.
-/
import Derived.Test.YtldkmopkakdgnaaSlices
import Derived.Test.YtldkmopkakdgnaaFrameV
namespace Go.Proofs.Ytldkmopkakdgnaa
open Go.RowKit
set_option maxRecDepth 20000
set_option linter.unusedVariables false

theorem EqualY_any (A A' : Option Addr) (n c n' c' : Nat) (l l' : List Int) (w : World) (h : Rd w 1 A n (l.map (Value.int .u8))) (h' : Rd w 1 A' n' (l'.map (Value.int .u8))) (hb : Byte8 l) (hb' : Byte8 l') :
    Calls Try.prog 18 #[.slice A n c, .slice A' n' c'] w fun e w' => e = .returned (.bool (decide (l = l'))) ∧ w = w' := by
  have hcv := run_bytes (P := Try.prog) Try.underlying22 Try.underlying5 Try.underlying9 c h
  have hcv' := run_bytes (P := Try.prog) Try.underlying22 Try.underlying5 Try.underlying9 c' h'
  rw [← str_eq hb hb']
  go_enter Try.func18, Try.ntmps18
  go_wp2
  go_ret
  exact ⟨rfl, rfl⟩
theorem EqualY_same (A A' : Option Addr) (n c n' c' : Nat) (l : List Int) (w : World) (h : Rd w 1 A n (l.map (Value.int .u8))) (h' : Rd w 1 A' n' (l.map (Value.int .u8))) (hb : Byte8 l) :
    Calls Try.prog 18 #[.slice A n c, .slice A' n' c'] w fun e w' => e = .returned (.bool true) ∧ w = w' :=
  (EqualY_any A A' n c n' c' l l w h h' hb hb).mono fun e w' hh => ⟨by rw [hh.1]; simp, hh.2⟩
end Go.Proofs.Ytldkmopkakdgnaa
