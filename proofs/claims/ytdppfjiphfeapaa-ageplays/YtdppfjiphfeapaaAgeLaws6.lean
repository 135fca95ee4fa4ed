/-
  The law AgePlays.
-/
import Derived.Test.YtdppfjiphfeapaaAgeLaws
import Derived.Test.YtdppfjiphfeapaaAgeRef
namespace Go.Proofs.Ytdppfjiphfeapaa
open Go.RowKit
set_option maxRecDepth 20000
set_option linter.unusedVariables false

set_option maxHeartbeats 3200000 in
theorem AgePlays_walk (a0 : Int) (A1 : Option Addr) (n1 c1 : Nat) (l1 : List AgO) (a2 a3 : Int) (w : World) (w0 : (Lit.int .i64 a0).wf = true) (h1 : RdG agoC 2 w A1 n1 l1) (q1 : ∀ s ∈ l1, in64 s.kd ∧ in64 s.n) (k1 : n1 ≤ c1) (b1 : c1 * 16 ≤ 140737488351232) (w2 : (Lit.int .i64 a2).wf = true) (w3 : (Lit.int .i64 a3).wf = true) :
    Calls Try.prog 3 #[.int .i64 a0, .slice A1 n1 c1, .int .i64 a2, .int .i64 a3] w fun e w' => e = .returned (.bool true) ∧ Below w.heap.size w w' := by
  have C1 := Lib.hid (agePlay_any a0 A1 n1 c1 l1 w h1 (by omega))
  have C2 := Lib.hid (fun (W : World) (hW : RdG agoC 2 W A1 n1 l1) => UPlay_any a0 A1 n1 c1 l1 W hW (by omega))
  have C3 := Lib.hid (fun (W : World) => Lasts_any a2 a3 W)
  unfold GivesAge at C1 C2
  have Hlen := Lib.hid (ageL_len a0 l1)
  generalize ageL a0 l1 = L at *
  generalize ageE a0 l1 = E at *
  clear q1 w0 w2 w3
  go_enter Try.func3, Try.ntmps3
  go_wp2_with fail
  refine C1.out.mono ?_
  rintro e w4 ⟨v4, rfl, ho4, hb4⟩
  have h4 := Rd.below h1 hb4
  clear C1 h1
  go_wp2_with fail
  refine (C2.out _ h4).mono ?_
  rintro e w5 ⟨v5, rfl, ho5, hb5⟩
  have ho4' := ho4.below hb5
  have hB := bthen hb4 hb5
  obtain ⟨m, hm⟩ : ∃ m, L.length = m := ⟨_, rfl⟩
  obtain ⟨A4, c4, rfl, -, -, r4⟩ := ho4'.formN hm
  obtain ⟨A5, c5, rfl, -, -, r5⟩ := ho5.formN hm
  have CE := Lib.hid (EqualAge_same A4 A5 m c4 c5 L w5 r4 r5 (by have := Hlen.out; omega))
  clear ho4 ho4' ho5 C2 h4 hb4 hb5 hm r4 r5 Hlen
  by_cases g : a2 < 1 ∨ 1048576 < a2 ∨ a3 < 0 ∨ 400 < a3
  · rw [show lastsV a2 a3 = 0 from if_pos g, show lastsE a2 a3 = 2 from if_pos g] at C3
    have hcs : a2 < 1 ∨ (1 ≤ a2 ∧ 1048576 < a2) ∨ (1 ≤ a2 ∧ a2 ≤ 1048576 ∧ a3 < 0) ∨ (1 ≤ a2 ∧ a2 ≤ 1048576 ∧ 0 ≤ a3 ∧ 400 < a3) := by omega
    clear g
    rcases hcs with q1 | ⟨q1, q2⟩ | ⟨q1, q2, q3⟩ | ⟨q1, q2, q3, q4⟩
    all_goals
      go_wp2_with fail
      refine (C3.out _).mono ?_
      rintro e w6 ⟨rfl, hw6⟩
      subst hw6
      clear C3
      go_wp2_with fail
      refine CE.out.mono ?_
      rintro e w7 ⟨rfl, hq⟩
      have hB7 := bthen hB (below_draws hq)
      clear CE hq hB
      go_wp2
      go_ret
      exact ⟨rfl, hB7⟩
  · have q1 : 1 ≤ a2 := by omega
    have q2 : a2 ≤ 1048576 := by omega
    have q3 : 0 ≤ a3 := by omega
    have q4 : a3 ≤ 400 := by omega
    have e1 : (a3 + 1) * a2 - 1 = a2 + a3 * a2 - 1 := by rw [Int.add_mul, Int.one_mul]; omega
    rw [show lastsV a2 a3 = (a3 + 1) * a2 - 1 from if_neg g, show lastsE a2 a3 = 0 from if_neg g, e1] at C3
    have b1 : 0 ≤ a3 * a2 := Int.mul_nonneg (by omega) (by omega)
    have b2 : a3 * a2 ≤ 400 * 1048576 := Int.mul_le_mul (by omega) q2 (by omega) (by omega)
    clear g e1
    go_wp2_with fail
    refine (C3.out _).mono ?_
    rintro e w6 ⟨rfl, hw6⟩
    subst hw6
    clear C3
    go_wp2_with fail
    refine CE.out.mono ?_
    rintro e w7 ⟨rfl, hq⟩
    have hB7 := bthen hB (below_draws hq)
    clear CE hq hB
    go_wp2
    go_ret
    exact ⟨rfl, hB7⟩
end Go.Proofs.Ytdppfjiphfeapaa
