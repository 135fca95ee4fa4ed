/-
  The walks of LinTells and LinFrames.
-/
import Derived.Test.YtpcpbccolkhgfaaLinRef
import Derived.Test.YtpcpbccolkhgfaaLinWalks2
import Derived.Test.YtpcpbccolkhgfaaRegion
namespace Go.Proofs.Ytpcpbccolkhgfaa
open Go.RowKit
set_option linter.unusedVariables false
set_option linter.unusedSimpArgs false

set_option maxHeartbeats 1000000 in
theorem LinTells_walk (a0 a1 : Int) (A2 : Option Addr) (n2 c2 : Nat) (l2 : List Int) (w : World) (w0 : (Lit.int .i64 a0).wf = true) (w1 : (Lit.int .u8 a1).wf = true)
    (h2 : Rd w 1 A2 n2 (l2.map (Value.int .u8))) (v2 : ∀ x ∈ l2, (Lit.int .u8 x).wf = true) (k2 : n2 ≤ c2) (b2 : c2 * 1 ≤ 140737488351232) :
    Calls Try.prog 3 #[.int .i64 a0, .int .u8 a1, .slice A2 n2 c2] w fun e w' => e = .returned (.bool true) ∧ Below w.heap.size w w' := by
  have q2 : Byte8 l2 := fun x hx => by have := wf_u8 (v2 x hx); omega
  have q1 := wf_u8 w1
  clear w0 w1 v2
  have HG := Lib.hid (Guard_any a0 w)
  go_enter Try.func3, Try.ntmps3
  go_wp2_with fail
  refine HG.out.mono ?_
  rintro e w1 ⟨rfl, rfl⟩
  go_wp2_with fail
  refine (Number_any a1 _ q1.1 (by omega)).mono ?_
  rintro e w1 ⟨rfl, rfl⟩
  go_wp2_with fail
  refine (GNumber_any a1 _ q1.1 (by omega)).mono ?_
  rintro e w1 ⟨rfl, hb⟩
  generalize (numberM a1).1 = nm at *
  generalize (numberM a1).2 = ne at *
  go_wp2_with fail
  refine (Sum_any A2 n2 c2 l2 _ (h2.below hb) q2 (by omega)).mono ?_
  rintro e w2 ⟨rfl, rfl⟩
  go_wp2_with fail
  refine (GSum_any A2 n2 c2 l2 _ (h2.below hb) q2 (by omega)).mono ?_
  rintro e w2 ⟨rfl, rfl⟩
  generalize sumM l2 = s at *
  by_cases hi : IdOk a0
  · rw [show guardV a0 = (guardM a0, 0) from if_pos hi]
    simp only
    obtain ⟨hi0, hi1⟩ := hi
    have t0 : decide (a0 < 0) = false := by simp; omega
    have t1 : decide (63 < a0) = false := by simp; omega
    have HGG := Lib.hid (GGuard_any a0 w1 ⟨hi0, hi1⟩)
    generalize guardM a0 = g at *
    go_wp2_with fail
    refine HGG.out.mono ?_
    rintro e w3 ⟨rfl, hb3⟩
    go_wp2
    go_ret
    exact ⟨rfl, bthen hb hb3⟩
  · rw [show guardV a0 = (0, 2) from if_neg hi]
    simp only
    unfold IdOk at hi
    by_cases h0 : a0 < 0
    · clear hi
      go_wp2
      go_ret
      exact ⟨rfl, hb⟩
    · have t0 : decide (a0 < 0) = false := by simpa using h0
      have t1 : decide (63 < a0) = true := by simp; omega
      clear hi h0
      go_wp2
      go_ret
      exact ⟨rfl, hb⟩
end Go.Proofs.Ytpcpbccolkhgfaa
