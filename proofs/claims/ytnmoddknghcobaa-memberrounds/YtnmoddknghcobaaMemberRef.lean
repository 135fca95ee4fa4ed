/-
  Contracts of the reference's PRight, PStep, for every input.
-/
import Derived.Test.YtnmoddknghcobaaMemberWalks3
namespace Go.Proofs.Ytnmoddknghcobaa
open Go.RowKit
set_option linter.unusedVariables false

theorem right_no {own : Int} {m : Mem} (h : own < 0 ∨ 15 < own ∨ m.tk < 0 ∨ 400 < m.tk ∨ m.ls < 0 ∨ 400 < m.ls) : rightB own m = false := decide_eq_false fun g => by
  obtain ⟨g1, g2, g3, g4, g5, g6, _⟩ := g
  omega
theorem right_is {k : Nat} {m : Mem} (h0 : k < 16) (h1 : 0 ≤ m.tk) (h2 : m.tk ≤ 400) (h3 : 0 ≤ m.ls) (h4 : m.ls ≤ 400) : rightB (k : Int) m = (hasB m.vw k != m.ou) := by
  have : rightB (k : Int) m = decide (hasB m.vw k = !m.ou) := decide_eq_decide.2 ⟨fun g => by have := g.2.2.2.2.2.2; rwa [Int.toNat_natCast] at this, fun g => ⟨by omega, by omega, h1, h2, h3, h4, by rw [Int.toNat_natCast]; exact g⟩⟩
  rw [this]
  cases hasB m.vw k <;> cases m.ou <;> rfl
theorem has_ne (v k : Nat) : (((v &&& 1 <<< k : Nat) : Int) != 0) = hasB v k := by
  rw [not_zero16]
  have := and_bit v k
  cases hx : hasB v k <;> simp_all
set_option maxHeartbeats 800000 in
theorem PRight_any (own : Int) (m : Mem) (hv : m.vw < 65536) (w : World) : Calls Try.prog 15 #[.int .i64 own, memV m] w fun e w' => e = .returned (.bool (rightB own m)) ∧ Below w.heap.size w w' := by
  by_cases h : own < 0 ∨ 15 < own ∨ m.tk < 0 ∨ 400 < m.tk ∨ m.ls < 0 ∨ 400 < m.ls
  · rw [right_no h]
    obtain ⟨vw, tk, ls, ou⟩ := m
    simp only at h hv
    have hc : own < 0 ∨ (0 ≤ own ∧ 15 < own) ∨ (0 ≤ own ∧ own ≤ 15 ∧ tk < 0) ∨ (0 ≤ own ∧ own ≤ 15 ∧ 0 ≤ tk ∧ 400 < tk) ∨ (0 ≤ own ∧ own ≤ 15 ∧ 0 ≤ tk ∧ tk ≤ 400 ∧ ls < 0) ∨ (0 ≤ own ∧ own ≤ 15 ∧ 0 ≤ tk ∧ tk ≤ 400 ∧ 0 ≤ ls ∧ 400 < ls) := by omega
    clear h
    rcases hc with h1 | ⟨h1, h2⟩ | ⟨h1, h2, h3⟩ | ⟨h1, h2, h3, h4⟩ | ⟨h1, h2, h3, h4, h5⟩ | ⟨h1, h2, h3, h4, h5, h6⟩
    all_goals
      go_enter Try.func15, Try.ntmps15
      go_wp2
      go_ret
      exact ⟨rfl, below_1 _⟩
  · obtain ⟨k, rfl⟩ : ∃ k : Nat, own = k := ⟨own.toNat, by omega⟩
    have hk : k < 16 := by omega
    rw [right_is hk (by omega) (by omega) (by omega) (by omega)]
    obtain ⟨vw, tk, ls, ou⟩ := m
    simp only at h hv ⊢
    have h1 : ¬ (k : Int) < 0 := by omega
    have h2 : ¬ 15 < (k : Int) := by omega
    have h3 : ¬ tk < 0 := by omega
    have h4 : ¬ 400 < tk := by omega
    have h5 : ¬ ls < 0 := by omega
    have h6 : ¬ 400 < ls := by omega
    clear h
    have hs := shl16 hk
    have hs' := hs
    rw [Int.one_mul] at hs'
    have ha := u16_and hv (one_lt16 hk)
    have Hn := Lib.hid (has_ne vw k)
    have hk0 : (0 : Int) ≤ (k : Int) := by omega
    generalize vw &&& 1 <<< k = q at *
    generalize 1 <<< k = b at *
    generalize hasB vw k = y at *
    go_enter Try.func15, Try.ntmps15
    go_wp2
    go_quiet (fail)
    go_wp2
    go_ret
    exact ⟨ret_bool (by rw [Hn.out]; cases y <;> cases ou <;> rfl), bthen (below_1 _) (below_draws ⟨_, rfl⟩)⟩
theorem PStepF1_any (v k : Nat) (hv : v < 65536) (hk : k < 16) (w : World) : Calls Try.prog 24 #[.int .u16 (v : Int), .int .i64 (k : Int)] w fun e w' => e = .returned (.bool (hasB v k)) ∧ w' = w := by
  have hs := shl16 hk
  rw [Int.one_mul] at hs
  have ha := u16_and hv (one_lt16 hk)
  have Hn := Lib.hid (has_ne v k)
  generalize v &&& 1 <<< k = q at *
  generalize 1 <<< k = b at *
  generalize hasB v k = y at *
  go_enter Try.func24, Try.ntmps24
  go_wp2
  go_ret
  exact ⟨ret_bool Hn.out, rfl⟩
end Go.Proofs.Ytnmoddknghcobaa
